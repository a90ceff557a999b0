package strata

import (
	"slices"
	"strings"
	"sync"
	"sync/atomic"
)

// Table is an open table. Make it by Open.
type Table struct {
	blocks   []*block // their keys rise, also from block to block
	filter   filter
	unpacked atomic.Int64
}

// block is a block of an open table.
type block struct {
	first, last string
	count       int
	packed      string // its bytes, until it is unpacked
	once        sync.Once
	inside      *entries // nil, if the bytes make no sense
}

// Open opens a table (P5 to P7).
func Open(table string) (t *Table, e Errno) {
	defer func() {
		if recover() != nil {
			t, e = nil, ErrTable
		}
	}()
	c := cursor{text: table}
	inside := cursor{text: c.summed(len(table) - sumSize)}
	return inside.table(), OK
}

// table reads a table ahead of its sum.
func (c *cursor) table() *Table {
	t := &Table{blocks: make([]*block, c.number(1))}
	width := c.number(1)
	count, ahead := 0, ""
	for i := range t.blocks {
		b := c.head()
		c.need(ahead < b.first)
		t.blocks[i] = b
		count, ahead = count+b.count, b.last
	}
	c.need(count <= maxEntries)
	t.filter = c.filter(width, count)
	for _, b := range t.blocks {
		b.packed = strings.Clone(c.take(c.number(lengthSize)))
	}
	c.need(c.left() == 0)
	return t
}

// head reads the head of a block.
func (c *cursor) head() *block {
	b := &block{count: c.number(1), first: c.key(), last: c.key()}
	c.need(b.count > 0 && b.first <= b.last)
	return b
}

// key reads a key, and its length ahead of it. It is cloned, because what is handed in is not kept.
func (c *cursor) key() string {
	key := strings.Clone(c.take(c.number(1)))
	c.need(rightKey(key))
	return key
}

// inside answers what is in a block, which is unpacked when it is asked for first; nil, if its bytes make no sense.
func (t *Table) inside(b *block) *entries {
	b.once.Do(func() {
		b.inside = b.unpack(t.filter)
		b.packed = ""
		if b.inside != nil {
			t.unpacked.Add(1)
		}
	})
	return b.inside
}

// unpack unpacks a block. What its head and the filter tell of its keys must hold: else Get would not find what List answers.
func (b *block) unpack(f filter) (inside *entries) {
	defer func() {
		if recover() != nil {
			inside = nil
		}
	}()
	c := cursor{text: b.packed}
	x := c.unpack(b.count)
	c.need(x.places[0].key == b.first && x.places[b.count-1].key == b.last)
	for _, p := range x.places {
		c.need(f.mayHave(p.key))
	}
	return x
}

// Get answers the entry of a key (P6, P7).
func (t *Table) Get(key string) (Entry, Errno) {
	i, _ := slices.BinarySearchFunc(t.blocks, key, func(b *block, key string) int {
		return strings.Compare(b.last, key)
	})
	if i == len(t.blocks) || key < t.blocks[i].first || !t.filter.mayHave(key) {
		return Entry{}, ErrNone
	}
	inside := t.inside(t.blocks[i])
	if inside == nil {
		return Entry{}, ErrTable
	}
	return inside.find(key)
}

// Gather looks many keys up at the same time (P8).
func (t *Table) Gather(keys []string) ([]Entry, []Errno) {
	list := make([]Entry, len(keys))
	errs := make([]Errno, len(keys))
	var wg sync.WaitGroup
	for i, key := range keys {
		wg.Go(func() { list[i], errs[i] = t.Get(key) })
	}
	wg.Wait()
	return list, errs
}

// List answers the entries from lo to hi (P6, P7).
func (t *Table) List(lo string, hi string) ([]Entry, Errno) {
	var list []Entry
	for _, b := range t.blocks {
		if b.last < lo || !below(b.first, hi) {
			continue
		}
		inside := t.inside(b)
		if inside == nil {
			return nil, ErrTable
		}
		for entry := range inside.each() {
			if !below(entry.Key, hi) {
				break
			}
			if entry.Key >= lo {
				list = append(list, entry)
			}
		}
	}
	return list, OK
}

// below tells whether a key is below hi, which bounds nothing if it is empty.
func below(key string, hi string) bool { return hi == "" || key < hi }

// Each goes through the entries (P6, P7).
func (t *Table) Each() func(yield func(Entry) bool) {
	return func(yield func(Entry) bool) {
		for _, b := range t.blocks {
			inside := t.inside(b)
			if inside == nil {
				return
			}
			for entry := range inside.each() {
				if !yield(entry) {
					return
				}
			}
		}
	}
}

// Blocks is how many blocks there are (P6).
func (t *Table) Blocks() int { return len(t.blocks) }

// Unpacked is how many blocks were unpacked (P9).
func (t *Table) Unpacked() int { return int(t.unpacked.Load()) }
