package strata

import "sync"

// A table is
//   - how many blocks it has, and how many bits a key its filter has, in 1 byte each;
//   - of each block a head: how many entries it has, its first key and its last key (1 byte, and for a key as many bytes as it tells);
//   - the bits of the filter;
//   - the blocks, each of them its length in 2 bytes and its bytes;
//   - the sum of all bytes ahead of it.
//
// The heads stand together, so that a key's block is found with no block unpacked. One sum stands for all: a burst does not change how many bytes there are, so it can't hide where the sum is sought.
const (
	maxKey     = 16
	maxValue   = 64
	maxEntries = 64
	lengthSize = 2 // bytes of a block's length
)

// Build makes a table (P5).
func Build(o Options, list []Entry) (string, Errno, int) {
	if len(list) > maxEntries {
		return "", ErrMany, 0
	}
	if e, at := firstWrong(list); e != OK {
		return "", e, at
	}
	groups := cut(list, o.Block)
	f := newFilter(o.Bloom, list)
	out := []byte{byte(len(groups)), byte(f.width)}
	for _, group := range groups {
		out = appendHead(out, group)
	}
	out = append(out, f.bits...)
	for _, block := range packAll(o, groups) {
		out = appendNumber(out, len(block), lengthSize)
		out = append(out, block...)
	}
	return string(appendSummed(nil, string(out))), OK, 0
}

// firstWrong is the error of the first entry that has one, and its number.
func firstWrong(list []Entry) (Errno, int) {
	ahead := ""
	for i, entry := range list {
		switch {
		case !rightKey(entry.Key):
			return ErrKey, i
		case !rightValue(entry):
			return ErrValue, i
		case entry.Key <= ahead:
			return ErrOrder, i
		}
		ahead = entry.Key
	}
	return OK, 0
}

func rightKey(key string) bool { return key != "" && len(key) <= maxKey }

func rightValue(e Entry) bool {
	return len(e.Value) <= maxValue && !(e.Dead && len(e.Value) > 0)
}

// cut cuts a list into its blocks. An entry has one byte or more, so that a Block below 1 is as good as 1.
func cut(list []Entry, block int) [][]Entry {
	var groups [][]Entry
	from, size := 0, 0
	for i, entry := range list {
		size += len(entry.Key) + len(entry.Value)
		if size >= block || i == len(list)-1 {
			groups = append(groups, list[from:i+1])
			from, size = i+1, 0
		}
	}
	return groups
}

// packAll packs the blocks side by side. Each goroutine has a place of its own, so that the order in which they end is not to be seen.
func packAll(o Options, groups [][]Entry) [][]byte {
	blocks := make([][]byte, len(groups))
	var wg sync.WaitGroup
	for i, group := range groups {
		wg.Go(func() { blocks[i] = pack(o, group) })
	}
	wg.Wait()
	return blocks
}

// appendHead lays the head of a block.
func appendHead(out []byte, group []Entry) []byte {
	out = append(out, byte(len(group)))
	for _, entry := range []Entry{group[0], group[len(group)-1]} {
		out = append(out, byte(len(entry.Key)))
		out = append(out, entry.Key...)
	}
	return out
}
