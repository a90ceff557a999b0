package strata_test

import (
	"hash/crc32"
	"strings"
	"testing"

	"strata/strata"
)

// sumByWords follows P2 to the letter, bit by bit.
func sumByWords(data string) int {
	n := 4294967295
	for _, b := range []byte(data) {
		for bit := range 8 {
			apart := int(b)>>bit&1 != n&1
			n = n / 2
			if apart {
				n = n ^ 2197175160
			}
		}
	}
	return n ^ 4294967295
}

func TestSumOfKnownTexts(t *testing.T) {
	for _, c := range []struct {
		data string
		want int
	}{
		{"", 0},
		{"123456789", 3808858755},
		{"a", 3251651376},
		{strings.Repeat("\x00", 32), 2324772522},
		{strings.Repeat("\xff", 32), 1655221059},
	} {
		if got := strata.Sum(c.data); got != c.want {
			t.Errorf("P2: Sum(%q) = %d, want %d", c.data, got, c.want)
		}
	}
}

func TestSumIsTheOneOfTheDocument(t *testing.T) {
	check := func(data string) {
		if got, want := strata.Sum(data), sumByWords(data); got != want {
			t.Fatalf("P2: Sum(%.40q) of %d bytes = %d, want %d", data, len(data), got, want)
		}
	}
	for a := range 256 {
		check(string([]byte{byte(a)}))
		check(string([]byte{0x80, byte(a), 0xff}))
	}
	d := dice(1)
	for n := range 300 {
		check(d.text(n, 256))
		check(strings.Repeat("\x80", n))
	}
}

func TestSumOfLongTexts(t *testing.T) {
	castagnoli := crc32.MakeTable(crc32.Castagnoli)
	for _, data := range oddTexts() {
		if got, want := strata.Sum(data), int(crc32.Checksum([]byte(data), castagnoli)); got != want {
			t.Errorf("P2: Sum(%.40q) of %d bytes = %d, want %d", data, len(data), got, want)
		}
	}
}
