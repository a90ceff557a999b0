package strata_test

import (
	"slices"
	"strings"
	"testing"

	"strata/strata"
)

func frame(t *testing.T, records ...string) string {
	t.Helper()
	log, e, at := strata.Frame(records)
	if e != strata.OK || at != 0 {
		t.Fatalf("P4: Frame of %d records: error %d, place %d", len(records), e, at)
	}
	return log
}

// checkFramed holds what P4 says of a log that Frame answered and of its beginnings at the ends of records.
func checkFramed(t *testing.T, records []string) string {
	t.Helper()
	log := frame(t, records...)
	if back, whole := strata.Unframe(log); !whole || !slices.Equal(back, records) {
		t.Fatalf("P4: of %d records: %.80q, %v", len(records), back, whole)
	}
	for n := range records {
		if !strings.HasPrefix(log, frame(t, records[:n]...)) {
			t.Fatalf("P4: the log of %d records does not begin with that of the first %d", len(records), n)
		}
	}
	return log
}

// checkAnyLog holds what P4 says of a text that Frame need not have answered.
func checkAnyLog(t *testing.T, text string) {
	t.Helper()
	records, whole := strata.Unframe(text)
	var log strings.Builder
	for i, r := range records {
		if len(r) > 128 {
			t.Fatalf("P4: Unframe(%.40q): record %d has %d bytes", text, i, len(r))
		}
		log.WriteString(frame(t, r))
	}
	if !strings.HasPrefix(text, log.String()) || whole != (len(text) == log.Len()) {
		t.Fatalf("P4: Unframe(%.40q): %d records, %v", text, len(records), whole)
	}
}

// checkBurst holds what P4 says of a log with a burst in it.
func checkBurst(t *testing.T, log string, records []string, at int, mask uint32) {
	t.Helper()
	text, turned := burst(log, at, mask)
	if !turned {
		return
	}
	back, whole := strata.Unframe(text)
	if len(back) > len(records) || !slices.Equal(back, records[:len(back)]) || whole && len(back) == len(records) {
		t.Fatalf("P4: burst %x at bit %d: %.80q, %v", mask, at, back, whole)
	}
	checkAnyLog(t, text)
}

func mixedRecords() []string {
	return []string{"one", "", strings.Repeat("r", 128), "\x00\x00", "", "\xff\x80", "last"}
}

// trapRecords look like logs themselves: whoever takes a wrong length for right finds right sums behind it.
func trapRecords(t *testing.T) []string {
	inner := frame(t, "x", "", "yz")
	records := []string{inner, frame(t, inner), strings.Repeat(frame(t, ""), 14)}
	for _, n := range []int{0, 1, 60, 100} {
		records = append(records, frame(t, strings.Repeat("b", n))[5:]+inner[:15])
	}
	return records
}

func TestFrameOrdinaryRecords(t *testing.T) {
	checkFramed(t, []string{"one"})
	checkFramed(t, mixedRecords())
	checkFramed(t, trapRecords(t))
}

func TestFrameNoRecord(t *testing.T) {
	for _, records := range [][]string{nil, {}} {
		if log, e, at := strata.Frame(records); log != "" || e != strata.OK || at != 0 {
			t.Errorf("P4: no record: %q, error %d, place %d", log, e, at)
		}
	}
	if records, whole := strata.Unframe(""); len(records) != 0 || !whole {
		t.Errorf("P4: the empty log: %q, %v", records, whole)
	}
	if log := frame(t, ""); log == "" {
		t.Error("P4: the log of an empty record is that of none")
	}
}

func TestFrameEveryLength(t *testing.T) {
	d := dice(6)
	for n := range 129 {
		checkFramed(t, []string{d.text(n, 256), strings.Repeat("\x00", n)})
	}
}

func TestFrameManyRecords(t *testing.T) {
	d := dice(7)
	records := make([]string, 64)
	checkFramed(t, records)
	for i := range records {
		records[i] = d.text(128, 256)
	}
	checkFramed(t, records)
	for _, n := range []int{65, 66, 1000} {
		tooLong := slices.Repeat([]string{strings.Repeat("r", 129)}, n)
		for _, list := range [][]string{make([]string, n), tooLong} {
			if log, e, at := strata.Frame(list); log != "" || e != strata.ErrMany || at != 0 {
				t.Errorf("P4: %d records: %d bytes, error %d, place %d", n, len(log), e, at)
			}
		}
	}
}

func TestFrameTooLong(t *testing.T) {
	for _, n := range []int{129, 130, 255, 256, 384, 1 << 20} {
		for place := range 64 {
			records := make([]string, 64)
			records[place] = strings.Repeat("r", n)
			records[63] = strings.Repeat("s", n)
			if log, e, at := strata.Frame(records); log != "" || e != strata.ErrLong || at != place {
				t.Fatalf("P4: record %d of %d bytes: %d bytes, error %d, place %d", place, n, len(log), e, at)
			}
		}
	}
}

func TestUnframeCutLogs(t *testing.T) {
	for _, records := range [][]string{mixedRecords(), trapRecords(t), make([]string, 64)} {
		log := checkFramed(t, records)
		n := 0
		for cut := range len(log) + 1 {
			if n < len(records) && cut == len(frame(t, records[:n+1]...)) {
				n++
			}
			ends := cut == len(frame(t, records[:n]...))
			back, whole := strata.Unframe(log[:cut])
			if whole != ends || !slices.Equal(back, records[:n]) {
				t.Fatalf("P4: cut at %d: %.80q, %v, want %d records, %v", cut, back, whole, n, ends)
			}
		}
	}
}

func TestUnframeBursts(t *testing.T) {
	d := dice(8)
	for _, records := range [][]string{{""}, {"a"}, mixedRecords(), trapRecords(t)} {
		log := frame(t, records...)
		for at := range 8 * len(log) {
			for _, mask := range []uint32{1, 3, 0xff, 0x80000001, 0xffffffff, 0xdeadbeef, d.bits(), d.bits()} {
				checkBurst(t, log, records, at, mask)
			}
		}
	}
}

// From 128 a short burst leads to any other length. Wherever that is, the record has the sum that would let it pass.
func TestUnframeBurstsInLength(t *testing.T) {
	for size := range 120 {
		record := frame(t, strings.Repeat("b", size))[5:]
		record += strings.Repeat("\x00", 128-len(record))
		records := []string{record, "behind"}
		log := frame(t, records...)
		for mask := range uint32(256) {
			checkBurst(t, log, records, 0, mask)
		}
		checkBurst(t, log, records, 0, uint32(size^128))
	}
}

// A sum tells apart all bursts of 32 bits, if the differences that each of these bits makes alone can't cancel one another out.
func TestUnframeEveryBurstIsTold(t *testing.T) {
	for _, part := range []string{frame(t, "")[:5], frame(t, strings.Repeat("r", 128))[5:]} {
		for at := range 8*len(part) - 31 {
			var basis [32]int
			for k := range 32 {
				turned, _ := burst(part, at+k, 1)
				if !joins(&basis, difference(turned)) {
					t.Fatalf("P4: some burst at bit %d of a part of %d bytes is not told", at, len(part))
				}
			}
		}
	}
}

// difference is 0 if the last four bytes are the sum of those ahead of them.
func difference(part string) int {
	n := len(part) - 4
	end := []byte(part[n:])
	return strata.Sum(part[:n]) ^ (int(end[0]) | int(end[1])<<8 | int(end[2])<<16 | int(end[3])<<24)
}

// joins adds a number to a basis; false: exclusive-or makes it of those that are there.
func joins(basis *[32]int, n int) bool {
	for bit := 31; bit >= 0; bit-- {
		if n>>bit&1 == 0 {
			continue
		}
		if basis[bit] == 0 {
			basis[bit] = n
			return true
		}
		n ^= basis[bit]
	}
	return false
}

func TestUnframeLongerLogs(t *testing.T) {
	one := frame(t, "grown")
	for _, n := range []int{65, 1000} {
		records, whole := strata.Unframe(strings.Repeat(one, n))
		if !whole || !slices.Equal(records, slices.Repeat([]string{"grown"}, n)) {
			t.Errorf("P4: a log that grew to %d records: %d, %v", n, len(records), whole)
		}
	}
}

// A right sum does not make a record of 129 bytes or more right.
func TestUnframeRecordTooLong(t *testing.T) {
	for n := 129; n < 256; n++ {
		text := "ahead"
		log := frame(t, text) + summed(string([]byte{byte(n)})) + summed(strings.Repeat("r", n))
		if records, whole := strata.Unframe(log); whole || !slices.Equal(records, []string{text}) {
			t.Errorf("P4: a record of %d bytes: %.80q, %v", n, records, whole)
		}
		checkAnyLog(t, log)
	}
}

// summed is bytes and their sum, as in a log.
func summed(data string) string {
	n := strata.Sum(data)
	return data + string([]byte{byte(n), byte(n >> 8), byte(n >> 16), byte(n >> 24)})
}

func TestUnframeAnyText(t *testing.T) {
	d := dice(9)
	log := frame(t, mixedRecords()...)
	for _, text := range oddTexts() {
		checkAnyLog(t, text)
		checkAnyLog(t, log+text)
		checkAnyLog(t, text+log)
	}
	for range 20000 {
		text := ""
		for range d.below(5) {
			a, b := d.below(len(log)), d.below(len(log))
			text += log[min(a, b):max(a, b)] + frame(t, d.text(d.below(10), 256)) + d.text(d.below(3), 2)
		}
		checkAnyLog(t, text)
	}
}
