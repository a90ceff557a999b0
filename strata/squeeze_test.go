package strata_test

import (
	"math"
	"strings"
	"testing"

	"strata/strata"
)

// checkSqueezed holds what P3 says of any data of 1024 bytes or fewer, and answers its text.
func checkSqueezed(t *testing.T, data string) string {
	t.Helper()
	text, e := strata.Squeeze(data)
	if e != strata.OK {
		t.Fatalf("P3: Squeeze(%.40q) of %d bytes: error %d", data, len(data), e)
	}
	if len(text) > len(data)+16 {
		t.Fatalf("P3: Squeeze(%.40q): %d bytes become %d", data, len(data), len(text))
	}
	for _, most := range []int{len(data), len(data) + 1, 1024, 1025, math.MaxInt} {
		if back, e := strata.Unsqueeze(text, most); back != data || e != strata.OK {
			t.Fatalf("P3: Unsqueeze(.., %d) of %d bytes: %.40q, error %d", most, len(data), back, e)
		}
	}
	for _, most := range []int{len(data) - 1, -1, math.MinInt} {
		if back, e := strata.Unsqueeze(text, most); back != "" || e != strata.ErrData {
			t.Fatalf("P3: Unsqueeze(.., %d) of %d bytes: %.40q, error %d", most, len(data), back, e)
		}
	}
	return text
}

// checkAnyText holds what P3 says of a text that Squeeze need not have answered.
func checkAnyText(t *testing.T, text string, most int) {
	t.Helper()
	data, e := strata.Unsqueeze(text, most)
	switch e {
	case strata.OK:
		if len(data) > most || len(data) > 1024 {
			t.Fatalf("P3: Unsqueeze(%.40q, %d): %d bytes", text, most, len(data))
		}
	case strata.ErrData:
		if data != "" {
			t.Fatalf("P1: Unsqueeze(%.40q, %d): data beside an error", text, most)
		}
	default:
		t.Fatalf("P3: Unsqueeze(%.40q, %d): error %d", text, most, e)
	}
}

func TestSqueezeOrdinaryData(t *testing.T) {
	for _, data := range []string{
		"a", "ab", "abc", "abcd", "abcabcabcabc", "\x00\xff\x80",
		strings.Repeat("to and fro ", 90),
		strings.Repeat("ab", 3) + strings.Repeat("ba", 100),
		"the log, the table, the store: the log is framed, the table is sorted",
	} {
		checkSqueezed(t, data)
	}
}

func TestSqueezeAtEveryLength(t *testing.T) {
	d := dice(2)
	for n := range 1025 {
		for _, kinds := range []int{2, 4, 30, 256} {
			checkSqueezed(t, d.text(n, kinds))
		}
	}
}

func TestSqueezeLikeBytes(t *testing.T) {
	for n := range 1025 {
		for _, b := range []string{"\x00", "q", "\x80", "\xff"} {
			if text := checkSqueezed(t, strings.Repeat(b, n)); len(text) > 48 {
				t.Fatalf("P3: %d times %q: %d bytes", n, b, len(text))
			}
		}
	}
}

func TestSqueezeTooLong(t *testing.T) {
	for _, n := range []int{1025, 1026, 2048, 1 << 20} {
		if text, e := strata.Squeeze(strings.Repeat("q", n)); text != "" || e != strata.ErrLong {
			t.Errorf("P3: %d bytes: %d bytes, error %d", n, len(text), e)
		}
	}
}

// Short copies between stretches that have none are where a text grows most.
func TestSqueezeShortCopiesBetweenNewBytes(t *testing.T) {
	d := dice(3)
	for stretch := 1; stretch < 300; stretch++ {
		data := "wxyz"
		for len(data)+stretch+4 <= 1024 {
			data += d.text(stretch, 256) + "wxyz"
		}
		checkSqueezed(t, data)
	}
}

func TestSqueezePiecedData(t *testing.T) {
	d := dice(4)
	for range 1000 {
		data := d.text(1+d.below(20), 256)
		for len(data) < 1024 && d.below(60) > 0 {
			at := d.below(len(data))
			data += data[at:min(len(data), at+d.below(40))] + d.text(d.below(6), 256)
		}
		checkSqueezed(t, data[:min(len(data), 1024)])
	}
}

func TestUnsqueezeChangedTexts(t *testing.T) {
	data := "abcabcabcabcabcabcabc and so on, and so on"
	text := checkSqueezed(t, data)
	for i := range len(text) {
		for b := range 256 {
			for _, most := range []int{0, 40, 1024, math.MaxInt} {
				checkAnyText(t, text[:i]+string([]byte{byte(b)})+text[i+1:], most)
			}
		}
		if back, e := strata.Unsqueeze(text[:i], 1024); back != "" || e != strata.ErrData {
			t.Errorf("P3: cut at %d: %q, error %d", i, back, e)
		}
	}
	if back, e := strata.Unsqueeze(text+"\x00", 1024); back != "" || e != strata.ErrData {
		t.Errorf("P3: a byte more: %q, error %d", back, e)
	}
}

func TestUnsqueezeTextsOfNoData(t *testing.T) {
	long := "\x7f" + strings.Repeat("x", 128)
	for _, text := range []string{
		"",
		"\x01",
		"\x01\x00",
		"\x00\x00\x00",
		"\x01\x00\x01ab",
		"\x02\x00\x01a",
		"\x04\x00\x80\x01\x00",
		"\x05\x00\x00a\x80\x00\x00",
		"\x05\x00\x00a\x80\x02\x00",
		"\x05\x00\x00a\x80\x01",
		"\x04\x00\x00a\x80\x01\x00",
		"\x01\x04" + strings.Repeat(long, 8) + "\x00x",
		"\xff\xff" + strings.Repeat(long, 511) + "\x7e" + strings.Repeat("x", 127),
		strings.Repeat("\xff", 1<<20),
	} {
		for _, most := range []int{1024, 65535, math.MaxInt} {
			if data, e := strata.Unsqueeze(text, most); data != "" || e != strata.ErrData {
				t.Errorf("P3: Unsqueeze(%.40q, %d) = %.40q, error %d", text, most, data, e)
			}
		}
	}
}

func TestUnsqueezeThrownTexts(t *testing.T) {
	d := dice(5)
	mosts := []int{math.MinInt, -1, 0, 1, 7, 1023, 1024, 1025, math.MaxInt}
	for range 20000 {
		text := d.text(2, 5) + d.text(d.below(40), 256)
		if d.below(2) == 0 {
			text = string([]byte{byte(d.below(60)), 0}) + d.text(d.below(40), 12)
		}
		checkAnyText(t, text, mosts[d.below(len(mosts))])
	}
	for _, text := range oddTexts() {
		for _, most := range mosts {
			checkAnyText(t, text, most)
		}
	}
}
