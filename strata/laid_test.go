package strata_test

import (
	"strings"
	"testing"

	"strata/strata"
)

// Here tables are laid by hand, in the form that build.go and block.go tell, with a right sum: one by one they break a rule that the reader must hold.

// laidBlock is a block with its head.
type laidBlock struct {
	count       int
	first, last string
	bytes       string
}

func byteOf(n int) string { return string([]byte{byte(n)}) }

func twoBytes(n int) string { return byteOf(n) + byteOf(n>>8) }

func withLength(key string) string { return byteOf(len(key)) + key }

// laidEntry is an entry ahead of its value: so many bytes of the key ahead, others, and the mark of the value.
func laidEntry(same int, rest string, mark int) string {
	return byteOf(same<<4|(len(rest)-1)) + rest + byteOf(mark)
}

func laidPiece(mark int, text string) string { return byteOf(mark) + twoBytes(len(text)) + text }

func laidTable(width int, filter string, blocks ...laidBlock) string {
	text := byteOf(len(blocks)) + byteOf(width)
	for _, b := range blocks {
		text += byteOf(b.count) + withLength(b.first) + withLength(b.last)
	}
	text += filter
	for _, b := range blocks {
		text += twoBytes(len(b.bytes)) + b.bytes
	}
	return summed(text)
}

// one is a block of the keys a, b and c, whose middle entry is laid as told.
func one(middle string, values string) laidBlock {
	return laidBlock{3, "a", "c", laidPiece(0, laidEntry(0, "a", 0)+middle+laidEntry(0, "c", 0)+values)}
}

// single is a block of one entry without a value.
func single(key string) laidBlock {
	return laidBlock{1, key, key, laidPiece(0, laidEntry(0, key, 0))}
}

// The form that is laid here is the one that Build lays: else these tests would show nothing.
func TestLaidTablesPass(t *testing.T) {
	squeezed, _ := strata.Squeeze(strings.Repeat("v", 64))
	for _, text := range []string{
		laidTable(0, ""), laidTable(16, ""), laidTable(0, "", single("k")), laidTable(0, "", single("k"), single("l")),
		laidTable(0, "", one(laidEntry(0, "b", 0), "")),
		laidTable(0, "", one(laidEntry(1, "b", 64), strings.Repeat("v", 64))),
		laidTable(0, "", one(laidEntry(1, strings.Repeat("b", 15), 65), "")),
		laidTable(4, "\xff\xff", one(laidEntry(1, "b", 3), "vvv"), single("d")),
		laidTable(0, "", laidBlock{1, "k", "k", laidPiece(0, laidEntry(0, "k", 64)) + laidPiece(1, squeezed)}),
	} {
		if !checkAnyTable(t, text) {
			t.Errorf("P7: %q does not pass", text)
		}
	}
	list := []strata.Entry{alive("ka", "vw"), deadKey("kb"), alive("l", "")}
	text := build(t, strata.Options{Block: 5, Restart: 2}, list)
	first := laidBlock{2, "ka", "kb", laidPiece(0, laidEntry(0, "ka", 2)+laidEntry(1, "b", 65)+"vw")}
	if laid := laidTable(0, "", first, single("l")); laid != text {
		t.Errorf("a table is laid as %q, built as %q", laid, text)
	}
}

func TestLaidTablesAreRefused(t *testing.T) {
	long := strings.Repeat("b", 16)
	squeezed, _ := strata.Squeeze(strings.Repeat("v", 1024))
	entry, _ := strata.Squeeze(laidEntry(0, "k", 0))
	var many []laidBlock
	for i := range 65 {
		many = append(many, single("k"+byteOf(i)))
	}
	for what, text := range map[string]string{
		"a key of 17 bytes":             laidTable(0, "", one(laidEntry(1, long, 0), "")),
		"a key of 31 bytes":             laidTable(0, "", laidBlock{4, "a", "c", laidPiece(0, laidEntry(0, "a", 0)+laidEntry(0, long, 0)+laidEntry(15, "c"+long[1:], 0)+laidEntry(0, "c", 0))}),
		"a key of 17 bytes in a head":   laidTable(0, "", laidBlock{1, "b" + long, "b" + long, laidPiece(0, laidEntry(0, long, 0))}),
		"an empty key in a head":        laidTable(0, "", laidBlock{1, "", "", laidPiece(0, laidEntry(0, "a", 0))}),
		"more bytes than the key ahead": laidTable(0, "", one(laidEntry(2, "b", 0), "")),
		"a value of 66 bytes":           laidTable(0, "", one(laidEntry(0, "b", 66), strings.Repeat("v", 66))),
		"a value of 255 bytes":          laidTable(0, "", one(laidEntry(0, "b", 255), strings.Repeat("v", 255))),
		"a dead entry with a value":     laidTable(0, "", one(laidEntry(0, "b", 65), strings.Repeat("v", 65))),
		"too few values":                laidTable(0, "", one(laidEntry(0, "b", 3), "vv")),
		"too many values":               laidTable(0, "", one(laidEntry(0, "b", 3), "vvvv")),
		"equal keys":                    laidTable(0, "", one(laidEntry(0, "a", 0), "")),
		"falling keys":                  laidTable(0, "", one(laidEntry(0, "d", 0), "")),
		"equal keys of two blocks":      laidTable(0, "", single("k"), single("k")),
		"falling keys of two blocks":    laidTable(0, "", single("l"), single("k")),
		"blocks within one another":     laidTable(0, "", one(laidEntry(0, "b", 0), ""), single("bb")),
		"another first key":             laidTable(0, "", laidBlock{1, "a", "k", laidPiece(0, laidEntry(0, "k", 0))}),
		"another last key":              laidTable(0, "", laidBlock{1, "k", "l", laidPiece(0, laidEntry(0, "k", 0))}),
		"a first key above the last":    laidTable(0, "", laidBlock{1, "k", "a", laidPiece(0, laidEntry(0, "k", 0))}),
		"no entry":                      laidTable(0, "", laidBlock{0, "k", "k", ""}),
		"fewer entries":                 laidTable(0, "", laidBlock{2, "k", "k", laidPiece(0, laidEntry(0, "k", 0))}),
		"more entries":                  laidTable(0, "", laidBlock{1, "a", "a", one(laidEntry(0, "b", 0), "").bytes}),
		"65 entries":                    laidTable(0, "", many...),
		"a filter without its keys":     laidTable(4, "\x00", single("k")),
		"a filter of 17 bits a key":     laidTable(17, "\xff\xff", single("k")),
		"a filter that is too short":    laidTable(16, "\xff", single("k")),
		"a piece with another mark":     laidTable(0, "", laidBlock{1, "k", "k", laidPiece(2, entry)}),
		"a piece that can't be read":    laidTable(0, "", laidBlock{1, "k", "k", single("k").bytes + laidPiece(1, "\xff")}),
		"a piece that is cut":           laidTable(0, "", laidBlock{1, "k", "k", laidPiece(0, laidEntry(0, "k", 0))[:4]}),
		"pieces without end":            laidTable(0, "", laidBlock{1, "k", "k", strings.Repeat(laidPiece(1, squeezed), 1000)}),
		"bytes behind the blocks":       summed(laidTable(0, "", single("k"))),
	} {
		if checkAnyTable(t, text) {
			t.Errorf("P7: %s passes", what)
		}
	}
}

// What can't be read is not taken for what is not there, and what is ahead of it is answered.
func TestOneDamagedBlock(t *testing.T) {
	damaged := laidBlock{1, "m", "n", laidPiece(0, laidEntry(0, "m", 0))}
	text := laidTable(0, "", single("a"), damaged, single("z"))
	table := openTable(t, text)
	if _, e := table.Get("m"); e != strata.ErrTable {
		t.Errorf("P7: Get of a key in a damaged block: error %d", e)
	}
	if list, e := table.List("b", "y"); e != strata.ErrTable || list != nil {
		t.Errorf("P7: List of a damaged block: %d entries, error %d", len(list), e)
	}
	checkGather(t, table, []string{"a", "m", "n", "z"})
	var keys string
	for entry := range table.Each() {
		keys += entry.Key
	}
	if keys != "a" {
		t.Errorf("P7: Each goes on behind a damaged block: %q", keys)
	}
	if n := table.Unpacked(); n > 3 {
		t.Errorf("P9: %d blocks were unpacked", n)
	}
}
