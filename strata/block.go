package strata

import (
	"bytes"
	"iter"
	"slices"
	"strings"
)

// A block is, of each entry,
//   - in 1 byte how many bytes of its key are those of the key ahead (the upper half), and how many others follow, less one (the lower half: a key that is above the one ahead has another byte);
//   - these other bytes;
//   - in 1 byte how many bytes its value has, or the mark that it is dead;
//
// and, behind all this, the values. What Squeeze takes is short, so these bytes are laid in pieces: a mark, the length in 2 bytes, and a text, which is the piece or, squeezed, stands for it.
const (
	deadMark     = maxValue + 1
	plainMark    = 0
	squeezedMark = 1
	maxBlock     = maxEntries * (2 + maxKey + maxValue)
)

// pack makes the bytes of a block.
func pack(o Options, group []Entry) []byte {
	var out []byte
	for piece := range slices.Chunk(lay(o.Restart, group), maxData) {
		out = appendPiece(out, string(piece), o.Squeeze)
	}
	return out
}

// lay makes the bytes of a block ahead of their cutting into pieces.
func lay(restart int, group []Entry) []byte {
	var out, values []byte
	ahead := ""
	for i, entry := range group {
		same := 0
		if i%max(restart, 1) != 0 {
			same = begin(ahead, entry.Key)
		}
		out = append(out, byte(same<<4|(len(entry.Key)-same-1)))
		out = append(out, entry.Key[same:]...)
		out = append(out, valueMark(entry))
		values = append(values, entry.Value...)
		ahead = entry.Key
	}
	return append(out, values...)
}

// begin is with how many bytes both texts begin.
func begin(a string, b string) int {
	n := 0
	for n < min(len(a), len(b)) && a[n] == b[n] {
		n++
	}
	return n
}

func valueMark(e Entry) byte {
	if e.Dead {
		return deadMark
	}
	return byte(len(e.Value))
}

// appendPiece lays a piece of a block, squeezed where that is wanted and makes it shorter.
func appendPiece(out []byte, piece string, squeeze bool) []byte {
	mark, text := plainMark, piece
	if squeeze {
		if short, e := Squeeze(piece); e == OK && len(short) < len(piece) {
			mark, text = squeezedMark, short
		}
	}
	out = appendNumber(append(out, byte(mark)), len(text), lengthSize)
	return append(out, text...)
}

// entries is what is in a block.
type entries struct {
	places []place
	values []byte // of all entries, behind one another
}

// place is an entry whose value is from here to there among the values of its block.
type place struct {
	key      string
	from, to int
	dead     bool
}

// unpack reads the bytes of a block of so many entries.
func (c *cursor) unpack(count int) *entries {
	inside := cursor{text: c.pieces()}
	return inside.entries(count)
}

// pieces reads all pieces of a block.
func (c *cursor) pieces() string {
	var out []byte
	for c.left() > 0 {
		out = append(out, c.piece()...)
		c.need(len(out) <= maxBlock)
	}
	return string(out)
}

// piece reads a piece of a block.
func (c *cursor) piece() string {
	mark := c.number(1)
	text := c.take(c.number(lengthSize))
	if mark == plainMark {
		return text
	}
	data, e := Unsqueeze(text, maxData)
	c.need(mark == squeezedMark && e == OK)
	return data
}

// entries reads so many entries, whose keys rise, and nothing behind them.
func (c *cursor) entries(count int) *entries {
	x := &entries{}
	last := place{}
	for range count {
		last = c.place(last)
		x.places = append(x.places, last)
	}
	x.values = []byte(c.take(last.to))
	c.need(c.left() == 0)
	return x
}

// place reads an entry that stands behind another one.
func (c *cursor) place(ahead place) place {
	lengths := c.number(1)
	same := lengths >> 4
	c.need(same <= len(ahead.key))
	key := ahead.key[:same] + c.take(lengths&15+1)
	c.need(rightKey(key) && key > ahead.key)
	mark := c.number(1)
	c.need(mark <= deadMark)
	if mark == deadMark {
		return place{key, ahead.to, ahead.to, true}
	}
	return place{key, ahead.to, ahead.to + mark, false}
}

// each goes through the entries. Each time it hands out values of one new piece of memory, every one with a capacity of its own.
func (x *entries) each() iter.Seq[Entry] {
	return func(yield func(Entry) bool) {
		values := bytes.Clone(x.values)
		for _, p := range x.places {
			if !yield(p.entry(values[p.from:p.to:p.to])) {
				return
			}
		}
	}
}

// find answers the entry of a key.
func (x *entries) find(key string) (Entry, Errno) {
	i, found := slices.BinarySearchFunc(x.places, key, func(p place, key string) int {
		return strings.Compare(p.key, key)
	})
	if !found {
		return Entry{}, ErrNone
	}
	p := x.places[i]
	return p.entry(bytes.Clone(x.values[p.from:p.to])), OK
}

// entry is the entry at a place, with that value, if it has one.
func (p place) entry(value []byte) Entry {
	if p.dead {
		value = nil
	}
	return Entry{Key: strings.Clone(p.key), Value: value, Dead: p.dead}
}
