package strata_test

import (
	"strings"
	"unsafe"
)

// dice throws numbers that only look random: every run of the tests throws the same ones.
type dice uint64

func (d *dice) bits() uint32 {
	*d = *d*6364136223846793005 + 1442695040888963407
	return uint32(*d >> 32)
}

// below throws a number from 0 to n-1.
func (d *dice) below(n int) int { return int(d.bits()>>1) % n }

// text throws a text of n bytes out of so many different ones.
func (d *dice) text(n int, kinds int) string {
	b := make([]byte, n)
	for i := range b {
		b[i] = byte(d.below(kinds))
	}
	return string(b)
}

// burst turns, from bit at on, the bits that the mask tells, as far as the text goes; false: none is turned.
func burst(text string, at int, mask uint32) (string, bool) {
	b := []byte(text)
	for k := range 32 {
		if i := at + k; mask>>k&1 == 1 && i < 8*len(b) {
			b[i/8] ^= 1 << (i % 8)
		}
	}
	return string(b), string(b) != text
}

// shares tells whether two texts have memory in common.
func shares(a string, b string) bool {
	if a == "" || b == "" {
		return false
	}
	p := uintptr(unsafe.Pointer(unsafe.StringData(a)))
	q := uintptr(unsafe.Pointer(unsafe.StringData(b)))
	return p < q+uintptr(len(b)) && q < p+uintptr(len(a))
}

// oddTexts are texts of which no call may make a panic: short, long, and with much or nothing in them.
func oddTexts() []string {
	d := dice(7)
	texts := []string{"", "\x00", "\xff", "a", "\x80\x80", "é\xc3", strings.Repeat("\x00", 1<<20), strings.Repeat("\xff", 1<<20), strings.Repeat("ab", 1<<19)}
	for n := range 200 {
		texts = append(texts, d.text(n, 256), d.text(n, 3))
	}
	return append(texts, d.text(1<<20, 256), d.text(1<<20, 5))
}
