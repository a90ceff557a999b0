package strata

import (
	"bytes"
	"iter"
	"slices"
	"strings"
)

// over goes through two runs of entries as through one. Where both have a key, the newer one's entry hides the older one's.
func over(newer []Entry, older iter.Seq[Entry]) iter.Seq[Entry] {
	return func(yield func(Entry) bool) {
		i := 0
		for entry := range older {
			for ; i < len(newer) && newer[i].Key < entry.Key; i++ {
				if !yield(newer[i]) {
					return
				}
			}
			hidden := i < len(newer) && newer[i].Key == entry.Key
			if !hidden && !yield(entry) {
				return
			}
		}
		for ; i < len(newer); i++ {
			if !yield(newer[i]) {
				return
			}
		}
	}
}

// pairs goes through the pairs of a store from lo to hi. Each time it hands out new memory.
func (s *Store) pairs(lo string, hi string) iter.Seq[Entry] {
	return func(yield func(Entry) bool) {
		merged := slices.Values([]Entry{})
		for _, t := range s.tables {
			list, _ := t.List(lo, hi) // Start saw to it that all blocks make sense
			merged = over(list, merged)
		}
		for entry := range over(s.recent(lo, hi), merged) {
			if !entry.Dead && !yield(entry) {
				return
			}
		}
	}
}

// recent answers the entries in memory from lo to hi.
func (s *Store) recent(lo string, hi string) []Entry {
	var list []Entry
	at, _ := seek(s.memory, lo)
	for _, entry := range s.memory[at:] {
		if !below(entry.Key, hi) {
			break
		}
		list = append(list, copyOf(entry))
	}
	return list
}

// find answers the pair of a key, and whether there is one.
func (s *Store) find(key string) (Entry, bool) {
	if at, found := seek(s.memory, key); found {
		return copyOf(s.memory[at]), !s.memory[at].Dead
	}
	for _, t := range slices.Backward(s.tables) {
		if entry, e := t.Get(key); e == OK {
			return entry, !entry.Dead
		}
	}
	return Entry{}, false
}

// seek answers where the entry of a key stands in a list whose keys rise, or where it would.
func seek(list []Entry, key string) (int, bool) {
	return slices.BinarySearchFunc(list, key, func(e Entry, key string) int {
		return strings.Compare(e.Key, key)
	})
}

func copyOf(e Entry) Entry {
	return Entry{Key: strings.Clone(e.Key), Value: bytes.Clone(e.Value), Dead: e.Dead}
}
