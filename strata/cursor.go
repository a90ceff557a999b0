package strata

// badBytes is what a cursor panics with; each call that reads catches it and answers an error of its own.
const badBytes = "the bytes end too early or make no sense"

// cursor reads a text from its beginning. It gives up by panic, so that what is built of its steps needs no way out at each of them.
type cursor struct {
	text string
	at   int
}

// left is how many bytes were not read yet.
func (c *cursor) left() int { return len(c.text) - c.at }

// need gives up unless the bytes make sense.
func (c *cursor) need(sense bool) {
	if !sense {
		panic(badBytes)
	}
}

// take reads n bytes.
func (c *cursor) take(n int) string {
	c.need(n >= 0 && n <= c.left())
	c.at += n
	return c.text[c.at-n : c.at]
}

// number reads a number of so many bytes, the lowest first.
func (c *cursor) number(size int) int {
	n := 0
	for i, b := range []byte(c.take(size)) {
		n |= int(b) << (8 * i)
	}
	return n
}

// appendNumber lays a number as cursor.number reads it.
func appendNumber(out []byte, n int, size int) []byte {
	for i := range size {
		out = append(out, byte(n>>(8*i)))
	}
	return out
}
