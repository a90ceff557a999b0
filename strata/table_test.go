package strata_test

import (
	"bytes"
	"slices"
	"strings"
	"sync"
	"testing"

	"strata/strata"
)

func TestTableTellsItsList(t *testing.T) {
	for _, list := range lists() {
		for _, o := range fewOptions() {
			checkTable(t, built(t, o, list), list)
		}
	}
}

func TestTablesOfThrownLists(t *testing.T) {
	d := dice(23)
	for n := range 65 {
		list := thrownList(&d, n, []int{2, 3, 256}[n%3]+n%7)
		o := strata.Options{Block: d.below(400), Restart: d.below(9), Squeeze: n%2 == 0, Bloom: d.below(18)}
		checkTable(t, built(t, o, list), list)
	}
}

func TestBlocksEndBehindBlockBytes(t *testing.T) {
	list := []strata.Entry{alive("aaaa", "123456"), alive("b", ""), alive("c", "12345678"), deadKey("dddddddddd"), alive("e", "")}
	for _, c := range []struct{ block, want int }{{-1, 5}, {0, 5}, {1, 5}, {2, 4}, {9, 4}, {10, 4}, {11, 3}, {12, 2}, {20, 2}, {21, 2}, {30, 2}, {31, 1}, {32, 1}, {1 << 40, 1}} {
		table := built(t, strata.Options{Block: c.block}, list)
		if table.Blocks() != c.want || table.Blocks() != len(groupsOf(list, c.block)) {
			t.Errorf("P6: Block %d: %d blocks, want %d", c.block, table.Blocks(), c.want)
		}
	}
	for _, o := range optionsOfAll() {
		if table := built(t, o, nil); table.Blocks() != 0 {
			t.Errorf("P6: %d blocks of no entry", table.Blocks())
		}
	}
}

func TestEachIsGoneThroughTwiceAtATime(t *testing.T) {
	list := edgeList()
	table := built(t, strata.Options{Block: 20}, list)
	each := table.Each()
	n := 0
	for outer := range each {
		m := 0
		for inner := range each {
			if !sameEntry(inner, list[m]) {
				t.Fatalf("P6: entry %d in entry %d: %+v", m, n, inner)
			}
			m++
			if m > n {
				break
			}
		}
		if got, e := table.Get(outer.Key); e != strata.OK || !sameEntry(got, list[n]) {
			t.Fatalf("P6: Get within Each: %+v, error %d", got, e)
		}
		n++
	}
	if n != len(list) {
		t.Errorf("P6: Each: %d entries", n)
	}
}

// A panic of who goes through Each is not Each's to catch.
func TestEachLetsPanicsThrough(t *testing.T) {
	table := built(t, strata.Options{}, edgeList())
	defer func() {
		if recover() != "mine" {
			t.Error("P6: Each swallowed a panic of its caller")
		}
	}()
	for range table.Each() {
		panic("mine")
	}
}

func TestGatherKeys(t *testing.T) {
	list := edgeList()
	for _, o := range fewOptions() {
		table := built(t, o, list)
		checkGather(t, table, nil)
		checkGather(t, table, []string{})
		checkGather(t, table, []string{"", "none", strings.Repeat("m", 17)})
		checkGather(t, table, slices.Repeat([]string{"a"}, 500))
		keys := keysAround(list)
		slices.Reverse(keys)
		checkGather(t, table, slices.Repeat(keys, 3))
	}
	got, errs := built(t, strata.Options{}, nil).Gather([]string{"a", ""})
	if len(got) != 2 || !slices.Equal(errs, []strata.Errno{strata.ErrNone, strata.ErrNone}) {
		t.Errorf("P8: Gather of an empty table: %+v, %v", got, errs)
	}
}

func TestBuildLeavesItsListAlone(t *testing.T) {
	for _, list := range lists() {
		for _, o := range fewOptions() {
			before := copied(list)
			text := build(t, o, list)
			if !sameList(list, before) {
				t.Fatalf("P1: Build changed its list")
			}
			changed := copied(list)
			text2 := build(t, o, changed)
			for i := range changed {
				clear(changed[i].Value)
				changed[i].Key = "changed"
			}
			checkList(t, openTable(t, text2), list, "", "")
			if text != text2 {
				t.Fatal("P1: a table hangs on the memory of its list")
			}
		}
	}
}

func TestGatherLeavesItsKeysAlone(t *testing.T) {
	table := built(t, strata.Options{}, edgeList())
	keys := append(make([]string, 0, 8), "b", "", "a", "b")
	before := slices.Clone(keys[:cap(keys)])
	got, _ := table.Gather(keys)
	if !slices.Equal(keys[:cap(keys)], before) {
		t.Errorf("P1: Gather changed its keys: %q", keys)
	}
	clear(keys)
	if got[0].Key != "b" || got[2].Key != "a" {
		t.Errorf("P1: an answer changed with the keys: %+v", got)
	}
}

// spoil appends to every value, writes into it, and holds that each one alone was changed.
func spoil(t *testing.T, answer []strata.Entry) {
	t.Helper()
	before := copied(answer)
	for i := range answer {
		grown := append(answer[i].Value, strings.Repeat("!", 70)...)
		for k := range grown {
			grown[k] ^= 0xff
		}
		full := answer[i].Value[:cap(answer[i].Value)]
		for k := range full {
			full[k] = '?'
		}
		for j := i + 1; j < len(answer); j++ {
			if !bytes.Equal(answer[j].Value, before[j].Value) {
				t.Fatalf("P1: who writes into value %d changes value %d", i, j)
			}
		}
	}
	for i := range answer {
		if strings.Trim(string(answer[i].Value), "?") != "" {
			t.Fatalf("P1: value %d was changed by another one: %q", i, answer[i].Value)
		}
	}
}

func TestValuesHaveMemoryOfTheirOwn(t *testing.T) {
	for _, list := range lists() {
		for _, o := range fewOptions() {
			table := built(t, o, list)
			var kept []strata.Entry
			for entry := range table.Each() {
				kept = append(kept, entry)
			}
			all, _ := table.List("", "")
			var one []strata.Entry
			var keys []string
			for _, entry := range list {
				got, _ := table.Get(entry.Key)
				again, _ := table.Get(entry.Key)
				one = append(one, got, again)
				keys = append(keys, entry.Key, entry.Key)
			}
			gathered, _ := table.Gather(keys)
			for _, answer := range [][]strata.Entry{all, kept, one, gathered} {
				spoil(t, answer)
				checkList(t, table, list, "", "")
			}
			checkTable(t, table, list)
		}
	}
}

func TestEachSpoiltOnTheWay(t *testing.T) {
	for _, o := range fewOptions() {
		list := edgeList()
		table := built(t, o, list)
		for range 3 {
			n := 0
			for entry := range table.Each() {
				if !sameEntry(entry, list[n]) {
					t.Fatalf("P1: entry %d of Each: %+v", n, entry)
				}
				spoil(t, []strata.Entry{entry})
				n++
			}
		}
	}
}

func TestTableAnswersNewMemory(t *testing.T) {
	list := edgeList()
	for _, o := range fewOptions() {
		text := build(t, o, list)
		table := openTable(t, text)
		for _, entry := range list {
			got, _ := table.Get(entry.Key)
			part, _ := table.List(entry.Key, entry.Key+"\x00")
			again, _ := table.List(entry.Key, entry.Key+"\x00")
			if shares(got.Key, entry.Key) || shares(got.Key, text) || shares(part[0].Key, text) || shares(part[0].Key, again[0].Key) {
				t.Fatalf("P1: the answer for %q shares memory", entry.Key)
			}
		}
	}
}

// unpacks holds that a step unpacks just so many blocks more.
func unpacks(t *testing.T, table *strata.Table, more int, what string, step func()) {
	t.Helper()
	before := table.Unpacked()
	step()
	if n := table.Unpacked() - before; n != more {
		t.Fatalf("P9: %s unpacks %d blocks, want %d", what, n, more)
	}
}

// meets is of how many blocks the last key is not below lo, and the first below hi, unless that is empty.
func meets(groups [][]strata.Entry, lo string, hi string) int {
	n := 0
	for _, group := range groups {
		if group[len(group)-1].Key >= lo && (hi == "" || group[0].Key < hi) {
			n++
		}
	}
	return n
}

// holds is how many blocks (none or one) a key is within.
func holds(groups [][]strata.Entry, key string) int { return meets(groups, key, key+"\x00") }

func TestUnpackedByGet(t *testing.T) {
	for _, list := range lists() {
		for _, o := range fewOptions() {
			text := build(t, o, list)
			groups := groupsOf(list, o.Block)
			for _, key := range keysAround(list) {
				one, many := openTable(t, text), openTable(t, text)
				in := slices.ContainsFunc(list, func(e strata.Entry) bool { return e.Key == key })
				if o.Bloom > 0 && !in {
					one.Get(key)
					if n := one.Unpacked(); n > holds(groups, key) {
						t.Fatalf("P9: Get(%q), which is not there: %d blocks", key, n)
					}
					continue
				}
				unpacks(t, one, holds(groups, key), "Get", func() { one.Get(key) })
				unpacks(t, one, 0, "Get once more", func() { one.Get(key); one.Gather([]string{key}) })
				unpacks(t, one, 0, "List behind Get", func() { one.List(key, key+"\x00") })
				unpacks(t, many, holds(groups, key), "Gather", func() { many.Gather(slices.Repeat([]string{key}, 40)) })
			}
		}
	}
}

func TestUnpackedByList(t *testing.T) {
	for _, list := range lists() {
		for _, o := range fewOptions() {
			text := build(t, o, list)
			groups := groupsOf(list, o.Block)
			keys := keysAround(list)
			for i, lo := range keys {
				for _, hi := range []string{"", lo, keys[len(keys)-1-i], keys[i*5%len(keys)]} {
					table := openTable(t, text)
					unpacks(t, table, meets(groups, lo, hi), "List", func() { table.List(lo, hi) })
					unpacks(t, table, 0, "List once more", func() { table.List(lo, hi) })
					unpacks(t, table, len(groups)-meets(groups, lo, hi), "the whole list", func() { table.List("", "") })
				}
			}
		}
	}
}

func TestUnpackedByEach(t *testing.T) {
	for _, list := range lists() {
		for _, o := range fewOptions() {
			table := built(t, o, list)
			groups := groupsOf(list, o.Block)
			unpacks(t, table, 0, "Open and Each", func() { table.Each() })
			for i, group := range groups {
				last := group[len(group)-1].Key
				unpacks(t, table, 1, "Each up to the end of a block", func() {
					for entry := range table.Each() {
						if entry.Key == last {
							break
						}
					}
				})
				if table.Unpacked() != i+1 {
					t.Fatalf("P9: Each: %d blocks, want %d", table.Unpacked(), i+1)
				}
			}
			if table.Unpacked() != table.Blocks() {
				t.Fatalf("P9: %d of %d blocks", table.Unpacked(), table.Blocks())
			}
		}
	}
}

func TestUnpackedOnceByManyAtATime(t *testing.T) {
	list := greatList()
	for _, o := range fewOptions() {
		text := build(t, o, list)
		for range 20 {
			table := openTable(t, text)
			var wg sync.WaitGroup
			for i := range 16 {
				wg.Go(func() {
					checkConcurrent(t, table, list, i)
				})
			}
			wg.Wait()
			if table.Unpacked() != table.Blocks() {
				t.Fatalf("P9: %d of %d blocks", table.Unpacked(), table.Blocks())
			}
		}
	}
}

// checkConcurrent is one of many that ask a table at the same time.
func checkConcurrent(t *testing.T, table *strata.Table, list []strata.Entry, i int) {
	switch i % 4 {
	case 0:
		if got, e := table.List("", ""); e != strata.OK || !sameList(got, list) {
			t.Errorf("P6: List at the same time: %d entries, error %d", len(got), e)
		}
	case 1:
		n := 0
		for entry := range table.Each() {
			if !sameEntry(entry, list[n]) {
				t.Errorf("P6: Each at the same time: %+v", entry)
			}
			n++
		}
	default:
		var keys []string
		for _, entry := range list {
			keys = append(keys, entry.Key)
		}
		if got, _ := table.Gather(keys); !sameList(got, list) {
			t.Errorf("P8: Gather at the same time: %d entries", len(got))
		}
	}
}

// A filter of 16 bits a key lets less than one wrong key in a hundred pass.
func TestFilterSparesBlocks(t *testing.T) {
	d := dice(24)
	list := thrownList(&d, 64, 256)
	text := build(t, strata.Options{Block: 1 << 20, Bloom: 16}, list)
	more := build(t, strata.Options{Block: 1 << 20, Bloom: 1000}, list)
	if more != text {
		t.Error("Bloom 1000 is not as good as 16")
	}
	passed := 0
	for range 2000 {
		table := openTable(t, text)
		table.Get("\x80" + d.text(1+d.below(15), 256))
		passed += table.Unpacked()
	}
	if passed > 20 {
		t.Errorf("P9: of 2000 wrong keys the filter lets %d pass", passed)
	}
}
