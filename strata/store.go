package strata

import (
	"slices"

	"strata/files"
)

const (
	maxPairs  = 48
	maxTables = 4 // so many lie upon one another at most
)

// Store keeps pairs in files. Make it by Start.
type Store struct {
	f       *files.Files
	o       Options
	takes   bool     // no step was refused yet
	tables  []*Table // the oldest first
	memory  []Entry  // what was updated behind the tables, the dead ones too; the keys rise
	records int      // how many updates that were
	log     int      // the number of the log that is appended to
}

// Start starts a store over files (P10, P12 to P14). It begins a log of its own: an older one may end in a piece of a record, and what stands behind that would not be read. So it appends nothing, and needs no room.
func Start(f *files.Files, o Options) (s *Store, e Errno) {
	defer func() {
		if recover() != nil {
			s, e = nil, ErrTable
		}
	}()
	if f == nil {
		return &Store{}, OK
	}
	l := layOut(f.Names())
	s = &Store{f: f, o: o, takes: true, log: l.last + 1}
	for _, name := range l.tables {
		s.open(name)
	}
	for _, name := range l.logs {
		s.replay(name)
	}
	s.begin()
	s.remove(l.old)
	return s, OK
}

// open opens a table of the files. All its blocks are unpacked, so that none turns out to be damaged later.
func (s *Store) open(name string) {
	text, _ := s.f.Read(name)
	t, e := Open(text)
	if e == OK {
		_, e = t.List("", "")
	}
	if e != OK {
		panic(badBytes)
	}
	s.tables = append(s.tables, t)
}

// replay brings the updates of a log into memory, and lets them stand for good. A piece of a record at the end is none of them: power failed ahead of the rest.
func (s *Store) replay(name string) {
	text, _ := s.f.Read(name)
	records, _ := Unframe(text)
	if len(records) == 0 {
		s.f.Remove(name)
		return
	}
	for _, record := range records {
		s.remember(record)
	}
	s.takes = s.takes && s.f.Sync(name)
}

// remember brings an update into memory.
func (s *Store) remember(record string) {
	c := cursor{text: record}
	entry := c.update()
	at, found := seek(s.memory, entry.Key)
	if !found {
		s.memory = slices.Insert(s.memory, at, Entry{})
	}
	s.memory[at] = entry
	s.records++
}

// begin begins the log that is appended to.
func (s *Store) begin() {
	s.takes = s.takes && s.f.Create(s.logName())
}

func (s *Store) logName() string { return fileName(logKind, s.log) }

func (s *Store) remove(names []string) {
	for _, name := range names {
		s.f.Remove(name)
	}
}

// answer is that of a call which makes steps.
func (s *Store) answer() Errno {
	if s.takes {
		return OK
	}
	return ErrFull
}

// Put lays a pair (P11).
func (s *Store) Put(key string, value []byte) Errno {
	entry := Entry{Key: key, Value: value}
	switch {
	case !rightKey(key):
		return ErrKey
	case !rightValue(entry):
		return ErrValue
	case !s.takes:
		return ErrFull
	case !s.has(key) && s.count() >= maxPairs:
		return ErrMany
	}
	return s.update(entry)
}

// Del takes a pair away (P11).
func (s *Store) Del(key string) Errno {
	switch {
	case !rightKey(key):
		return ErrKey
	case !s.takes:
		return ErrFull
	case !s.has(key):
		return ErrNone
	}
	return s.update(Entry{Key: key, Dead: true})
}

func (s *Store) has(key string) bool {
	_, ok := s.find(key)
	return ok
}

func (s *Store) count() int {
	n := 0
	for range s.pairs("", "") {
		n++
	}
	return n
}

// update brings an update into the log, and then into memory. If the logs have as many records as Frame takes, it flushes first: so memory never holds more keys than a table takes, and no log grows for ever.
func (s *Store) update(e Entry) Errno {
	if s.records >= maxRecords && s.Flush() != OK {
		return ErrFull
	}
	record := updateOf(e)
	framed, _, _ := Frame([]string{record})
	s.takes = s.f.Append(s.logName(), framed)
	if s.takes {
		s.remember(record)
	}
	return s.answer()
}

// Get answers a key's value (P11).
func (s *Store) Get(key string) ([]byte, Errno) {
	if !rightKey(key) {
		return nil, ErrKey
	}
	pair, ok := s.find(key)
	if !ok {
		return nil, ErrNone
	}
	return pair.Value, OK
}

// Scan answers the pairs from lo to hi (P11).
func (s *Store) Scan(lo string, hi string) ([]Entry, Errno) {
	return slices.Collect(s.pairs(lo, hi)), OK
}

// Sync lets all updates stand (P11, P13).
func (s *Store) Sync() Errno {
	s.takes = s.takes && s.f.Sync(s.logName())
	return s.answer()
}

// Flush lays what is in memory into a table (P11, P13), or all pairs, if there are many tables. Until the table has its name the store has changed nothing.
func (s *Store) Flush() Errno {
	if !s.takes || len(s.memory) == 0 {
		return s.answer()
	}
	kind, under, list := tableKind, s.tables, s.memory
	if len(s.tables) == maxTables {
		kind, under, list = wholeKind, nil, slices.Collect(s.pairs("", ""))
	}
	t, ok := s.write(fileName(kind, s.log), list)
	s.takes = ok
	if ok {
		s.tables, s.memory, s.records = append(under, t), nil, 0
		s.log++
		s.begin()
		s.remove(layOut(s.f.Names()).old)
	}
	return s.answer()
}

// write writes a table; false: a step was refused, or the list is none of a table (which only files that no store has left can bring about).
func (s *Store) write(name string, list []Entry) (*Table, bool) {
	text, e, _ := Build(s.o, list)
	t, _ := Open(text)
	f := s.f
	return t, e == OK && f.Create(newName) && f.Append(newName, text) && f.Sync(newName) && f.Rename(newName, name)
}
