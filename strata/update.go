package strata

// An update is a record of a log: a mark, the length of its key in 1 byte, the key, and the value behind it.
const (
	putMark = 0
	delMark = 1
)

// updateOf makes the record of an entry that is put or, if it is dead, deleted.
func updateOf(e Entry) string {
	mark := byte(putMark)
	if e.Dead {
		mark = delMark
	}
	out := append([]byte{mark, byte(len(e.Key))}, e.Key...)
	return string(append(out, e.Value...))
}

// update reads such a record.
func (c *cursor) update() Entry {
	mark := c.number(1)
	key := c.key()
	e := Entry{Key: key, Value: []byte(c.take(c.left())), Dead: mark == delMark}
	c.need(mark <= delMark && rightValue(e))
	return e
}
