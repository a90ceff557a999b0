package strata_test

import (
	"slices"
	"strings"
	"testing"

	"strata/strata"
)

// checkAnyTable holds what P7 says of any text. It tells whether the text passes for a table.
func checkAnyTable(t *testing.T, text string) bool {
	t.Helper()
	table, e := strata.Open(text)
	if e != strata.OK {
		if e != strata.ErrTable || table != nil {
			t.Fatalf("P7: Open(%.60q): error %d, table %v", text, e, table != nil)
		}
		return false
	}
	list, e := table.List("", "")
	if e != strata.OK {
		if e != strata.ErrTable || list != nil {
			t.Fatalf("P7: List of %.60q: error %d, %d entries", text, e, len(list))
		}
		askAnyway(t, table)
		return false
	}
	ahead := ""
	for _, entry := range list {
		if entry.Key <= ahead || len(entry.Key) > 16 || len(entry.Value) > 64 || entry.Dead && len(entry.Value) > 0 {
			t.Fatalf("P7: List of %.60q: %+v behind %q", text, entry, ahead)
		}
		ahead = entry.Key
	}
	checkOfOneMind(t, table, list)
	return true
}

// askAnyway asks a table that is damaged: whatever it answers, it ends and does not panic.
func askAnyway(t *testing.T, table *strata.Table) {
	t.Helper()
	keys := []string{"", "a", "key02", "k\x05", strings.Repeat("m", 16), "\xff", "z"}
	for _, key := range keys {
		if got, e := table.Get(key); e != strata.OK && !sameEntry(got, strata.Entry{}) {
			t.Fatalf("P1: Get(%q): error %d beside %+v", key, e, got)
		}
		if got, e := table.List(key, ""); e != strata.OK && got != nil {
			t.Fatalf("P1: List(%q, ..): error %d beside %d entries", key, e, len(got))
		}
		table.List("", key)
	}
	checkGather(t, table, keys)
	n, last := 0, ""
	for entry := range table.Each() {
		n, last = n+1, entry.Key
	}
	if _, e := table.List("", last); last != "" && e != strata.OK {
		t.Fatalf("P7: Each answers %q, behind what can't be read", last)
	}
	if n > 64 || table.Unpacked() > table.Blocks() {
		t.Fatalf("P7: Each: %d entries; %d of %d blocks", n, table.Unpacked(), table.Blocks())
	}
}

// checkOfOneMind holds that a table answers what P6 says of the list that it tells itself.
func checkOfOneMind(t *testing.T, table *strata.Table, list []strata.Entry) {
	t.Helper()
	for i, entry := range list {
		checkGet(t, table, list, entry.Key)
		checkGet(t, table, list, entry.Key+"\x00")
		checkList(t, table, list, entry.Key, "")
		checkList(t, table, list, "", entry.Key)
		checkList(t, table, list, entry.Key, list[len(list)-1-i].Key)
	}
	n := 0
	for entry := range table.Each() {
		if n >= len(list) || !sameEntry(entry, list[n]) {
			t.Fatalf("P6: Each: %+v at %d", entry, n)
		}
		n++
	}
	if n != len(list) {
		t.Fatalf("P6: Each: %d entries of %d", n, len(list))
	}
}

// shortLists make short tables, so that all of their bytes can be changed in many ways.
func shortLists() [][]strata.Entry {
	return [][]strata.Entry{
		nil, {alive("k", "v")}, {deadKey("k"), alive("ka", strings.Repeat("v", 40)), alive("kb", "")},
		{alive("key00", "0"), alive("key02", "2"), deadKey("key04"), alive("key06", "66"), alive("key08", "8"), alive("l", "")},
	}
}

func shortTables(t *testing.T) []string {
	var texts []string
	for _, list := range shortLists() {
		for _, o := range fewOptions() {
			texts = append(texts, build(t, o, list), build(t, strata.Options{Block: 8, Bloom: 3}, list))
		}
	}
	slices.Sort(texts)
	return slices.Compact(texts)
}

func TestOpenAnyText(t *testing.T) {
	for _, text := range oddTexts() {
		checkAnyTable(t, text)
		checkAnyTable(t, summed(text))
		if _, e := strata.Open(text); e != strata.ErrTable {
			t.Errorf("P7: Open(%.40q) of %d bytes: error %d", text, len(text), e)
		}
	}
}

func TestOpenChangedTables(t *testing.T) {
	for _, text := range shortTables(t) {
		for i := range len(text) {
			for b := range 256 {
				changed := text[:i] + string([]byte{byte(b)}) + text[i+1:]
				if checkAnyTable(t, changed) && changed != text {
					t.Fatalf("P7: byte %d of %d changed to %d passes for a table", i, len(text), b)
				}
				checkAnyTable(t, withSum(changed))
			}
		}
	}
}

func TestOpenCutTables(t *testing.T) {
	for _, text := range append(shortTables(t), build(t, strata.Options{Block: 60, Squeeze: true}, edgeList())) {
		for i := range len(text) {
			for _, cut := range []string{text[:i], text[i+1:], text[:i] + text[i+1:], text[:i] + "\x00" + text[i:]} {
				if checkAnyTable(t, cut) && cut != text {
					t.Fatalf("P7: a table of %d bytes passes, cut at %d", len(text), i)
				}
				checkAnyTable(t, withSum(cut))
				checkAnyTable(t, summed(cut))
			}
		}
		for _, more := range []string{"\x00", "\x00\x00\x00\x00", text} {
			if checkAnyTable(t, text+more) || checkAnyTable(t, more+text) && more != text {
				t.Fatalf("P7: a table with %d bytes more passes", len(more))
			}
			checkAnyTable(t, withSum(text+more))
		}
	}
}

// Pieces of tables are laid together, with a right sum, so that every part of the reader is reached.
func TestOpenPiecedTables(t *testing.T) {
	d := dice(25)
	texts := shortTables(t)
	passed := 0
	for range 60000 {
		b := []byte(texts[d.below(len(texts))])
		for range 1 + d.below(3) {
			other := texts[d.below(len(texts))]
			i, j := d.below(len(b)), d.below(len(other))
			switch d.below(4) {
			case 0:
				b[i] = byte(d.below(70))
			case 1:
				copy(b[i:min(len(b), i+d.below(8))], other[j:])
			case 2:
				b[i] ^= 1 << d.below(8)
			default:
				b[i] += byte(d.below(3)) - 1
			}
		}
		if checkAnyTable(t, withSum(string(b))) {
			passed++
		}
	}
	if passed < 1000 {
		t.Errorf("only %d of the texts pass for tables", passed)
	}
}

func TestBurstsInTables(t *testing.T) {
	d := dice(26)
	texts := append(shortTables(t), build(t, strata.Options{Block: 100, Bloom: 9}, edgeList()))
	for _, text := range texts {
		for at := range 8 * len(text) {
			for _, mask := range []uint32{1, 3, 0xff, 0x80000001, 0xffffffff, d.bits(), d.bits() | 1} {
				turned, any := burst(text, at, mask)
				if any && checkAnyTable(t, turned) {
					t.Fatalf("P7: burst %x at bit %d of a table of %d bytes is not found", mask, at, len(text))
				}
			}
		}
	}
}

// The polynomial itself, laid over a table anywhere, is what a sum of fewer bits, or one that is not at the end, would miss.
func TestBurstsOfPolynomials(t *testing.T) {
	text := build(t, strata.Options{Block: 60, Squeeze: true, Bloom: 4}, edgeList())
	for at := range 8 * len(text) {
		for _, mask := range []uint32{0x82f63b78, 0x82f63b78>>3 | 1<<31, 0x05ec76f1, 0xedb88320, 0xdb710641} {
			turned, any := burst(text, at, mask)
			if any && checkAnyTable(t, turned) {
				t.Fatalf("P7: burst %x at bit %d is not found", mask, at)
			}
		}
	}
}

func TestBurstsInAGreatTable(t *testing.T) {
	text := build(t, strata.Options{Block: 500, Restart: 4, Bloom: 16}, greatList())
	d := dice(27)
	for at := 0; at < 8*len(text); at += 3 {
		turned, _ := burst(text, at, d.bits()|1)
		if checkAnyTable(t, turned) {
			t.Fatalf("P7: a burst at bit %d is not found", at)
		}
	}
}
