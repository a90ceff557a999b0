package strata_test

import (
	"bytes"
	"math"
	"slices"
	"strings"
	"testing"

	"strata/strata"
)

// alive is an entry with a value; deadKey one without.
func alive(key string, value string) strata.Entry {
	return strata.Entry{Key: key, Value: []byte(value)}
}

func deadKey(key string) strata.Entry { return strata.Entry{Key: key, Dead: true} }

func sameEntry(a strata.Entry, b strata.Entry) bool {
	return a.Key == b.Key && bytes.Equal(a.Value, b.Value) && a.Dead == b.Dead
}

func sameList(a []strata.Entry, b []strata.Entry) bool { return slices.EqualFunc(a, b, sameEntry) }

// copied is a list of its own memory.
func copied(list []strata.Entry) []strata.Entry {
	out := slices.Clone(list)
	for i := range out {
		out[i].Value = bytes.Clone(out[i].Value)
	}
	return out
}

// thrownList is a list of n entries with keys and values of all lengths, some of them dead. Few kinds of bytes make keys with like beginnings, and values that can be squeezed.
func thrownList(d *dice, n int, kinds int) []strata.Entry {
	seen := map[string]strata.Entry{}
	for len(seen) < n {
		key := d.text(1+d.below(16), kinds)
		seen[key] = alive(key, d.text(d.below(65), kinds))
		if d.below(5) == 0 {
			seen[key] = deadKey(key)
		}
	}
	var list []strata.Entry
	for _, entry := range seen {
		list = append(list, entry)
	}
	slices.SortFunc(list, func(a, b strata.Entry) int { return strings.Compare(a.Key, b.Key) })
	return list
}

// edgeList has the shortest and the longest keys and values, and keys that are beginnings of others.
func edgeList() []strata.Entry {
	long := strings.Repeat("m", 16)
	return []strata.Entry{
		alive("\x00", ""), alive("\x00\x00", "\x00"), deadKey("\x00\x01"), alive("a", strings.Repeat("v", 64)),
		alive("ab", ""), deadKey("abc"), alive("abcdefghijklmnop", "x"), alive("b", strings.Repeat("\xff", 63)),
		deadKey(long[:15]), alive(long, strings.Repeat("w", 64)), alive("n", ""), alive("\x7f", "\x80"),
		alive("\x80", "\x7f"), deadKey("\xff"), alive(strings.Repeat("\xff", 16), "last"),
	}
}

// greatList is as many entries as a table takes, with the longest keys and values.
func greatList() []strata.Entry {
	d := dice(20)
	var list []strata.Entry
	for i := range 64 {
		list = append(list, alive("greatgreatkey"+string([]byte{'0' + byte(i/10), '0' + byte(i%10), '.'}), d.text(64, 3)))
	}
	return list
}

func lists() [][]strata.Entry {
	d := dice(21)
	return [][]strata.Entry{
		nil, {}, {alive("k", "")}, {deadKey("k")}, {alive("k", "v"), alive("kk", "vv")},
		edgeList(), greatList(), thrownList(&d, 64, 256), thrownList(&d, 30, 2), thrownList(&d, 10, 5),
	}
}

// optionsOfAll are options of every kind, with numbers below 0 and very great ones.
func optionsOfAll() []strata.Options {
	var all []strata.Options
	for _, block := range []int{math.MinInt, 0, 1, 2, 17, 100, 1000, 1024, 5000, math.MaxInt} {
		for i, restart := range []int{math.MinInt, -1, 0, 1, 2, 3, 16, math.MaxInt} {
			bloom := []int{math.MinInt, 0, 1, 7, 10, 16, 17, math.MaxInt}[(i+block&7)%8]
			all = append(all, strata.Options{Block: block, Restart: restart, Squeeze: i%2 == 0, Bloom: bloom})
		}
	}
	return all
}

// fewOptions are those that differ most.
func fewOptions() []strata.Options {
	return []strata.Options{
		{}, {Block: 40, Restart: 3}, {Block: 70, Restart: 2, Squeeze: true, Bloom: 5},
		{Block: 1 << 20, Restart: 100, Squeeze: true, Bloom: 16}, {Block: 1 << 20, Restart: 1},
	}
}

func build(t *testing.T, o strata.Options, list []strata.Entry) string {
	t.Helper()
	table, e, at := strata.Build(o, list)
	if e != strata.OK || at != 0 || table == "" {
		t.Fatalf("P5: Build(%+v) of %d entries: %d bytes, error %d, place %d", o, len(list), len(table), e, at)
	}
	return table
}

func openTable(t *testing.T, text string) *strata.Table {
	t.Helper()
	table, e := strata.Open(text)
	if e != strata.OK || table == nil {
		t.Fatalf("P5: Open of a table that was built: error %d", e)
	}
	return table
}

func built(t *testing.T, o strata.Options, list []strata.Entry) *strata.Table {
	t.Helper()
	return openTable(t, build(t, o, list))
}

// fromTo is the part of a list that P6 tells of.
func fromTo(list []strata.Entry, lo string, hi string) []strata.Entry {
	var out []strata.Entry
	for _, entry := range list {
		if entry.Key >= lo && (hi == "" || entry.Key < hi) {
			out = append(out, entry)
		}
	}
	return out
}

// groupsOf cuts a list into blocks by the document's words.
func groupsOf(list []strata.Entry, block int) [][]strata.Entry {
	var groups [][]strata.Entry
	size, begins := 0, true
	for _, entry := range list {
		if begins {
			groups, size = append(groups, nil), 0
		}
		last := len(groups) - 1
		groups[last] = append(groups[last], entry)
		size += len(entry.Key) + len(entry.Value)
		begins = size >= max(block, 1)
	}
	return groups
}

// keysAround are the keys of a list, keys below, between and above them, and keys that no list has.
func keysAround(list []strata.Entry) []string {
	keys := []string{"", "\x00", "key", "\xff\xff", strings.Repeat("k", 17), strings.Repeat("\xff", 100)}
	for _, entry := range list {
		k := entry.Key
		n := len(k) - 1
		keys = append(keys, k, k[:n], k+"\x00", k+"\xff", k[:n]+string([]byte{k[n] - 1}), k[:n]+string([]byte{k[n] + 1}))
	}
	slices.Sort(keys)
	return slices.Compact(keys)
}

// checkGet holds what P6 says of Get.
func checkGet(t *testing.T, table *strata.Table, list []strata.Entry, key string) {
	t.Helper()
	want, e := strata.Entry{}, strata.ErrNone
	for _, entry := range list {
		if entry.Key == key {
			want, e = entry, strata.OK
		}
	}
	if got, f := table.Get(key); f != e || !sameEntry(got, want) {
		t.Fatalf("P6: Get(%q) = %+v, error %d, want %+v, error %d", key, got, f, want, e)
	}
}

// checkList holds what P6 says of List.
func checkList(t *testing.T, table *strata.Table, list []strata.Entry, lo string, hi string) {
	t.Helper()
	got, e := table.List(lo, hi)
	if e != strata.OK || !sameList(got, fromTo(list, lo, hi)) {
		t.Fatalf("P6: List(%q, %q) = %d entries, error %d, want %d", lo, hi, len(got), e, len(fromTo(list, lo, hi)))
	}
}

// checkGather holds P8.
func checkGather(t *testing.T, table *strata.Table, keys []string) {
	t.Helper()
	got, errs := table.Gather(keys)
	if len(got) != len(keys) || len(errs) != len(keys) {
		t.Fatalf("P8: Gather of %d keys: %d entries, %d errors", len(keys), len(got), len(errs))
	}
	for i, key := range keys {
		if entry, e := table.Get(key); errs[i] != e || !sameEntry(got[i], entry) {
			t.Fatalf("P8: Gather of %q: %+v, error %d, Get: %+v, error %d", key, got[i], errs[i], entry, e)
		}
	}
}

// checkEach holds what P6 says of Each: left behind n entries, and gone through again.
func checkEach(t *testing.T, table *strata.Table, list []strata.Entry) {
	t.Helper()
	each := table.Each()
	for most := range len(list) + 2 {
		var got []strata.Entry
		for entry := range each {
			got = append(got, entry)
			if len(got) >= most {
				break
			}
		}
		if want := list[:min(max(most, 1), len(list))]; !sameList(got, want) {
			t.Fatalf("P6: Each, left behind %d: %d entries, want %d", most, len(got), len(want))
		}
	}
}

// checkTable holds what P6 and P8 say of a table, at all keys of its list and around them.
func checkTable(t *testing.T, table *strata.Table, list []strata.Entry) {
	t.Helper()
	keys := keysAround(list)
	checkList(t, table, list, "", "")
	checkEach(t, table, list)
	checkGather(t, table, keys)
	for i, key := range keys {
		checkGet(t, table, list, key)
		checkList(t, table, list, key, "")
		checkList(t, table, list, "", key)
		checkList(t, table, list, key, key)
		checkList(t, table, list, key, keys[min(i+1, len(keys)-1)])
		checkList(t, table, list, key, keys[len(keys)-1-i])
		checkList(t, table, list, key, keys[i*7%len(keys)])
	}
}

// withSum puts a table's sum right, so that it is not what refuses the text.
func withSum(text string) string {
	if len(text) < 4 {
		return text
	}
	return summed(text[:len(text)-4])
}
