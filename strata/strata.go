// Package strata: sorted tables, a log, and a store that outlives a loss of power: see DOC.md.
package strata

// Errno is what a call answers: OK or the reason for a refusal.
type Errno int

const (
	OK       Errno = 0
	ErrLong  Errno = 1 // above a bound
	ErrKey   Errno = 2 // no key
	ErrValue Errno = 3 // no value
	ErrOrder Errno = 4 // a key that is not above the one ahead
	ErrData  Errno = 5 // a text that stands for no data
	ErrTable Errno = 6 // no table, or one that is damaged
	ErrNone  Errno = 7 // there is no such pair
	ErrMany  Errno = 8 // too many
	ErrFull  Errno = 9 // the files have no room
)

// Entry is a key with its value, or the mark that it is dead.
type Entry struct {
	Key   string
	Value []byte
	Dead  bool
}

// Options is how tables are built.
type Options struct {
	Block   int  // bytes of keys and values behind which a block ends; below 1 counts as 1
	Restart int  // every so many entries of a block a key stands whole; below 1 counts as 1
	Squeeze bool // blocks are squeezed where that makes them shorter
	Bloom   int  // bits a key of the table's filter, at most 16; 0 or below: no filter
}
