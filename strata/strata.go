// Package strata: sorted tables, a log, and a store that outlives a loss of power: see DOC.md.
package strata

import "strata/files"

// Errno is what a call answers: OK or the reason for a refusal.
type Errno int

const (
	OK       Errno = 0
	ErrLong  Errno = 1 // above a bound
	ErrKey   Errno = 2 // no key
	ErrValue Errno = 3 // no value
	ErrOrder Errno = 4 // a key that is not above the one ahead
	ErrData  Errno = 5 // a text that stands for no data
	ErrTable Errno = 6 // no table, or one that is damaged
	ErrNone  Errno = 7 // there is no such pair
	ErrMany  Errno = 8 // too many
	ErrFull  Errno = 9 // the files have no room
)

// Entry is a key with its value, or the mark that it is dead.
type Entry struct {
	Key   string
	Value []byte
	Dead  bool
}

// Options is how tables are built.
type Options struct {
	Block   int  // bytes of keys and values behind which a block ends; below 1 counts as 1
	Restart int  // every so many entries of a block a key stands whole; below 1 counts as 1
	Squeeze bool // blocks are squeezed where that makes them shorter
	Bloom   int  // bits a key of the table's filter, at most 16; 0 or below: no filter
}

// Store keeps pairs in files. Make it by Start.
type Store struct {
	f *files.Files
}

// Start starts a store over files (P10, P12 to P14).
func Start(f *files.Files, o Options) (*Store, Errno) { return nil, 0 }

// Put lays a pair (P11).
func (s *Store) Put(key string, value []byte) Errno { return 0 }

// Del takes a pair away (P11).
func (s *Store) Del(key string) Errno { return 0 }

// Get answers a key's value (P11).
func (s *Store) Get(key string) ([]byte, Errno) { return nil, 0 }

// Scan answers the pairs from lo to hi (P11).
func (s *Store) Scan(lo string, hi string) ([]Entry, Errno) { return nil, 0 }

// Sync lets all updates stand (P11, P13).
func (s *Store) Sync() Errno { return 0 }

// Flush lays what is in memory into a table (P11, P13).
func (s *Store) Flush() Errno { return 0 }
