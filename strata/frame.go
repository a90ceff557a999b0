package strata

import "strings"

// A record is framed as its length in 1 byte, the sum of that byte, the record, and the record's sum. A sum that stands behind its bytes, the lowest byte first, tells every burst in them and in itself. The length has a sum of its own, because a burst in it would otherwise let the record's sum be sought at another place, where it may be right by chance or by design.
const (
	maxRecords = 64
	maxRecord  = 128
	sumSize    = 4
)

// Frame makes a log of records (P4).
func Frame(records []string) (string, Errno, int) {
	if len(records) > maxRecords {
		return "", ErrMany, 0
	}
	var log []byte
	for i, record := range records {
		if len(record) > maxRecord {
			return "", ErrLong, i
		}
		log = appendSummed(log, string([]byte{byte(len(record))}))
		log = appendSummed(log, record)
	}
	return string(log), OK, 0
}

// appendSummed lays bytes and their sum.
func appendSummed(out []byte, data string) []byte {
	return appendNumber(append(out, data...), Sum(data), sumSize)
}

// Unframe answers the records of a log (P4).
func Unframe(log string) (records []string, whole bool) {
	defer func() {
		if recover() != nil {
			whole = false
		}
	}()
	c := cursor{text: log}
	for c.left() > 0 {
		records = append(records, c.record())
	}
	return records, true
}

// record reads a framed record. It is cloned, because an answer shares no memory with the log.
func (c *cursor) record() string {
	size := int(c.summed(1)[0])
	c.need(size <= maxRecord)
	return strings.Clone(c.summed(size))
}

// summed reads n bytes and the sum behind them.
func (c *cursor) summed(n int) string {
	data := c.take(n)
	c.need(c.number(sumSize) == Sum(data))
	return data
}
