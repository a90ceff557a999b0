package strata_test

import (
	"slices"
	"strings"
	"testing"

	"strata/strata"
)

// checkRefused holds that Build refuses a list with an error and a place, whatever the options are.
func checkRefused(t *testing.T, list []strata.Entry, e strata.Errno, at int) {
	t.Helper()
	for _, o := range fewOptions() {
		if table, f, place := strata.Build(o, list); table != "" || f != e || place != at {
			t.Errorf("P5: Build(%+v) of %d entries: %d bytes, error %d, place %d, want error %d, place %d", o, len(list), len(table), f, place, e, at)
		}
	}
}

func TestBuildEveryOptions(t *testing.T) {
	for _, list := range lists() {
		for _, o := range optionsOfAll() {
			table := built(t, o, list)
			checkList(t, table, list, "", "")
			if n := len(groupsOf(list, o.Block)); table.Blocks() != n {
				t.Fatalf("P6: %+v: %d blocks, want %d", o, table.Blocks(), n)
			}
			for _, key := range keysAround(list) {
				checkGet(t, table, list, key)
			}
		}
	}
}

func TestBuildAnswersTheSameAgain(t *testing.T) {
	for _, list := range lists() {
		for _, o := range fewOptions() {
			first := build(t, o, list)
			for range 20 {
				if build(t, o, list) != first {
					t.Fatalf("Ways: Build(%+v) of %d entries hangs on how goroutines run", o, len(list))
				}
			}
		}
	}
}

func TestBuildManyEntries(t *testing.T) {
	great := greatList()
	checkTable(t, built(t, strata.Options{Block: 200}, great), great)
	checkRefused(t, append(great, alive("z", "")), strata.ErrMany, 0)
	for _, n := range []int{65, 66, 128, 256, 1000} {
		checkRefused(t, make([]strata.Entry, n), strata.ErrMany, 0)
		checkRefused(t, slices.Repeat([]strata.Entry{alive("k", strings.Repeat("v", 65))}, n), strata.ErrMany, 0)
	}
}

// rising is a list of n right entries.
func rising(n int) []strata.Entry {
	var list []strata.Entry
	for i := range n {
		list = append(list, alive("k"+string([]byte{byte(i)}), "v"))
	}
	return list
}

func TestBuildKeys(t *testing.T) {
	for _, n := range []int{1, 2, 15, 16} {
		list := []strata.Entry{alive(strings.Repeat("k", n), "v")}
		checkTable(t, built(t, strata.Options{}, list), list)
	}
	for _, place := range []int{0, 1, 40, 63} {
		for _, n := range []int{0, 17, 18, 256 + 5, 1 << 20} {
			list := rising(64)
			list[place].Key = strings.Repeat("z", n)
			checkRefused(t, list, strata.ErrKey, place)
		}
	}
}

func TestBuildValues(t *testing.T) {
	for _, n := range []int{0, 1, 63, 64} {
		list := []strata.Entry{alive("k", strings.Repeat("v", n)), alive("l", strings.Repeat("w", n))}
		checkTable(t, built(t, strata.Options{}, list), list)
	}
	for _, place := range []int{0, 1, 40, 63} {
		for _, n := range []int{65, 66, 256, 256 + 5, 1 << 20} {
			list := rising(64)
			list[place].Value = make([]byte, n)
			checkRefused(t, list, strata.ErrValue, place)
		}
		for _, n := range []int{1, 64, 65, 256} {
			list := rising(64)
			list[place].Value, list[place].Dead = make([]byte, n), true
			checkRefused(t, list, strata.ErrValue, place)
		}
	}
	list := []strata.Entry{{Key: "k", Value: []byte{}, Dead: true}, {Key: "l"}}
	checkTable(t, built(t, strata.Options{}, list), list)
}

func TestBuildOrder(t *testing.T) {
	for _, keys := range [][2]string{{"a", "b"}, {"a", "aa"}, {"a", "a\x00"}, {"Z", "a"}, {"z", "é"}, {"\x7f", "\x80"}, {"a\xff", "b"}, {strings.Repeat("a", 15), strings.Repeat("a", 16)}} {
		list := []strata.Entry{alive(keys[0], "1"), deadKey(keys[1])}
		checkTable(t, built(t, strata.Options{}, list), list)
		slices.Reverse(list)
		checkRefused(t, list, strata.ErrOrder, 1)
		checkRefused(t, []strata.Entry{list[0], list[0]}, strata.ErrOrder, 1)
		checkRefused(t, []strata.Entry{alive(keys[0], "alive"), deadKey(keys[0])}, strata.ErrOrder, 1)
	}
	for _, place := range []int{1, 40, 63} {
		list := rising(64)
		list[place].Key = list[place-1].Key
		checkRefused(t, list, strata.ErrOrder, place)
	}
}

func TestBuildFirstOfSeveralErrors(t *testing.T) {
	long := strings.Repeat("v", 65)
	checkRefused(t, []strata.Entry{alive("", long)}, strata.ErrKey, 0)
	checkRefused(t, []strata.Entry{alive("b", ""), {Key: "", Value: []byte("v"), Dead: true}}, strata.ErrKey, 1)
	checkRefused(t, []strata.Entry{alive("b", ""), alive("a", long)}, strata.ErrValue, 1)
	checkRefused(t, []strata.Entry{alive("b", ""), {Key: "a", Value: []byte("v"), Dead: true}}, strata.ErrValue, 1)
	checkRefused(t, []strata.Entry{alive("b", ""), alive("a", ""), alive("", long)}, strata.ErrOrder, 1)
	checkRefused(t, []strata.Entry{alive("b", ""), alive("c", long), alive("", "")}, strata.ErrValue, 1)
	checkRefused(t, []strata.Entry{alive("b", ""), alive("c", ""), alive("", ""), alive("a", long)}, strata.ErrKey, 2)
}

// What the options are for: they make a table shorter where they can.
func TestBuildOptionsBear(t *testing.T) {
	for _, block := range []int{300, 1 << 20} {
		o := strata.Options{Block: block}
		plain := len(build(t, o, greatList()))
		o.Restart = 8
		if n := len(build(t, o, greatList())); n >= plain {
			t.Errorf("Restart 8: %d bytes, with whole keys %d", n, plain)
		}
		o.Restart, o.Squeeze = 0, true
		if n := len(build(t, o, greatList())); n >= plain {
			t.Errorf("Squeeze, Block %d: %d bytes, without %d", block, n, plain)
		}
	}
	d := dice(22)
	for _, list := range append(lists(), thrownList(&d, 64, 256)) {
		for _, o := range fewOptions() {
			o.Squeeze = false
			plain := len(build(t, o, list))
			o.Squeeze = true
			if n := len(build(t, o, list)); n > plain {
				t.Errorf("Squeeze makes %d bytes of %d", n, plain)
			}
		}
	}
}
