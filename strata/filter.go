package strata

import "iter"

const (
	maxBloom = 16
	spread   = 0x9e3779b97f4a7c15 // an odd number without a pattern, so that products of sums that are alike are not
)

// filter tells of most keys that a table does not have that it does not have them. A key turns some of its bits on; a key whose bits are not all on is not there.
type filter struct {
	width int // bits a key; 0: there is no filter
	size  int // bits in all
	bits  []byte
}

// emptyFilter has all its bits off.
func emptyFilter(bloom int, keys int) filter {
	width := min(max(bloom, 0), maxBloom)
	size := width * keys
	return filter{width, size, make([]byte, (size+7)/8)}
}

// newFilter makes the filter of a list.
func newFilter(bloom int, list []Entry) filter {
	f := emptyFilter(bloom, len(list))
	for _, entry := range list {
		for at := range f.places(entry.Key) {
			f.bits[at/8] |= 1 << (at % 8)
		}
	}
	return f
}

// filter reads the filter of so many keys.
func (c *cursor) filter(width int, keys int) filter {
	c.need(width <= maxBloom)
	f := emptyFilter(width, keys)
	copy(f.bits, c.take(len(f.bits)))
	return f
}

// places goes through the bits of a key. Seven of them to ten bits a key let the fewest wrong keys pass.
func (f filter) places(key string) iter.Seq[int] {
	return func(yield func(int) bool) {
		if f.size == 0 {
			return
		}
		n := uint64(Sum(key)) + 1
		for range max(f.width*7/10, 1) {
			n *= spread
			if !yield(int((n >> 32) % uint64(f.size))) {
				return
			}
		}
	}
}

// mayHave is false only if the table does not have the key.
func (f filter) mayHave(key string) bool {
	for at := range f.places(key) {
		if f.bits[at/8]>>(at%8)&1 == 0 {
			return false
		}
	}
	return true
}
