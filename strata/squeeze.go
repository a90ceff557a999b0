package strata

// A squeezed text is the length of its data in 2 bytes, and parts that make up just as many bytes:
//   - a mark below copyMark, and as many bytes as it tells and one more: they stand for themselves;
//   - any other mark, which tells how many bytes are copied, and a distance in 2 bytes, which tells how far back they begin (a copy may reach into itself).
//
// A copy takes 3 bytes and stands for 4 or more, so it pays for the mark of the bytes behind it: a text has at most 2 + 1 + 8 bytes more than its data.
const (
	maxData    = 1024
	numberSize = 2 // bytes of a length or a distance
	copyMark   = 128
	minCopy    = 4
	maxCopy    = minCopy + 255 - copyMark
	maxPlain   = copyMark
)

// Squeeze makes data shorter where it can (P3).
func Squeeze(data string) (string, Errno) {
	if len(data) > maxData {
		return "", ErrLong
	}
	out := appendNumber(nil, len(data), numberSize)
	seen := map[string]int{}
	plain := 0 // from here to at the bytes are not laid yet
	for at := 0; at+minCopy <= len(data); {
		head := data[at : at+minCopy]
		from, known := seen[head]
		seen[head] = at
		if !known {
			at++
			continue
		}
		n := alike(data, from, at)
		out = appendPlain(out, data[plain:at])
		out = appendCopy(out, at-from, n)
		at += n
		plain = at
	}
	return string(appendPlain(out, data[plain:])), OK
}

// alike is how many bytes, as far as one copy goes, are the same from both places on.
func alike(data string, from int, at int) int {
	n := 0
	for n < maxCopy && at+n < len(data) && data[from+n] == data[at+n] {
		n++
	}
	return n
}

// appendPlain lays bytes that stand for themselves.
func appendPlain(out []byte, data string) []byte {
	for len(data) > 0 {
		n := min(len(data), maxPlain)
		out = append(out, byte(n-1))
		out = append(out, data[:n]...)
		data = data[n:]
	}
	return out
}

// appendCopy lays a copy of n bytes.
func appendCopy(out []byte, distance int, n int) []byte {
	return appendNumber(append(out, byte(copyMark+n-minCopy)), distance, numberSize)
}

// Unsqueeze answers the data that a text stands for (P3).
func Unsqueeze(text string, most int) (data string, e Errno) {
	defer func() {
		if recover() != nil {
			data, e = "", ErrData
		}
	}()
	c := cursor{text: text}
	size := c.number(numberSize)
	c.need(size <= maxData && size <= most)
	var out []byte
	for len(out) < size {
		out = c.part(out)
	}
	c.need(len(out) == size && c.left() == 0)
	return string(out), OK
}

// part reads a part of a squeezed text and lays its bytes behind those ahead of it.
func (c *cursor) part(out []byte) []byte {
	mark := c.number(1)
	if mark < copyMark {
		return append(out, c.take(mark+1)...)
	}
	distance := c.number(numberSize)
	c.need(distance >= 1 && distance <= len(out))
	for range minCopy + mark - copyMark {
		out = append(out, out[len(out)-distance])
	}
	return out
}
