package strata_test

import (
	"bytes"
	"math"
	"strings"
	"testing"

	"strata/files"
	"strata/strata"
)

// mixed is a trial with pairs in memory and in tables.
func mixed(t *testing.T) *trial {
	t.Helper()
	r := newTrial(t, 0, fewOptions()[3])
	for i := range 30 {
		r.do(t, call{name: "Put", key: numbered(i), value: strings.Repeat("v", i)})
		if i%8 == 7 {
			r.do(t, call{name: "Flush"})
		}
	}
	return r
}

// TestPutKeepsNothing: P1: who writes into a value that was handed to Put changes nothing; Put does not change it.
func TestPutKeepsNothing(t *testing.T) {
	r := newTrial(t, 0, strata.Options{})
	room := []byte("one two three")
	if e := r.s.Put("k", room[4:7]); e != strata.OK || string(room) != "one two three" {
		t.Fatalf("P1: Put answers %d, and leaves %q", e, room)
	}
	copy(room, "xxxxxxxxxxxxx")
	r.w.put("k", "two")
	r.checkAll(t)
	r.do(t, call{name: "Flush"})
	copy(room, "yyyyyyyyyyyyy")
	r.checkAll(t)
	r.do(t, call{name: "Start"})
	r.checkAll(t)
}

// scribble writes over a value and behind it.
func scribble(value []byte) {
	for i := range value {
		value[i] = '#'
	}
	_ = append(value, "######"...)
}

// TestAnswersAreNew: P1: who writes into what Get or Scan answered, or appends to it, changes nothing in the store.
func TestAnswersAreNew(t *testing.T) {
	r := mixed(t)
	for i := range 30 {
		value, _ := r.s.Get(numbered(i))
		scribble(value)
		r.checkPairs(t, "writing into what Get answered")
	}
	for _, lo := range []string{"", numbered(3), numbered(25)} {
		list, _ := r.s.Scan(lo, "")
		for i := range list {
			scribble(list[i].Value)
			list[i] = strata.Entry{}
		}
		r.checkAll(t)
	}
	r.do(t, call{name: "Flush"})
	r.do(t, call{name: "Start"})
	r.checkAll(t)
}

// TestScannedValuesShareNothing: P1: to append to one value of an answer, or to write into it, changes no other.
func TestScannedValuesShareNothing(t *testing.T) {
	r := mixed(t)
	list, _ := r.s.Scan("", "")
	other, _ := r.s.Scan("", "")
	want := r.w.list()
	for i := range list {
		scribble(list[i].Value)
		want[i].Value = bytes.Repeat([]byte("#"), len(want[i].Value))
		if !sameList(list, want) {
			t.Fatalf("P1: writing into value %d makes the answer %s", i, shown(list))
		}
	}
	if !sameList(other, r.w.list()) {
		t.Fatalf("P1: writing into an answer makes another one %s", shown(other))
	}
}

// TestKeysAreNew: P1: no key that is answered shares memory with one that was handed in, or with another answer.
func TestKeysAreNew(t *testing.T) {
	r := newTrial(t, 0, strata.Options{})
	key := strings.Clone("some key")
	for _, name := range []string{"Put", "Flush"} {
		r.do(t, call{name: name, key: key})
		a, _ := r.s.Scan("", "")
		b, _ := r.s.Scan("", "")
		if shares(a[0].Key, key) || shares(a[0].Key, b[0].Key) {
			t.Errorf("P1: behind %s: a key shares memory", name)
		}
	}
}

// TestStoreTakesAnything: P1: no call panics or goes on for ever, whatever it is handed.
func TestStoreTakesAnything(t *testing.T) {
	r := mixed(t)
	texts := oddTexts()
	for i, text := range texts {
		r.do(t, call{name: "Put", key: text, value: texts[(i*5+1)%len(texts)]})
		r.do(t, call{name: "Put", key: "k", value: text})
		r.checkGet(t, text)
		other := texts[(i*11+3)%len(texts)]
		got, e := r.s.Scan(text, other)
		if e != strata.OK || !sameList(got, fromTo(r.w.list(), text, other)) {
			t.Fatalf("P11: Scan: %d pairs, error %d", len(got), e)
		}
		if i%3 > 0 {
			r.do(t, call{name: "Del", key: text})
		}
		if i%9 == 0 {
			r.do(t, call{name: "Flush"})
		}
	}
	r.checkAll(t)
}

// TestStoreOfNoFiles: P1: what was not made by Start, or over no files, takes nothing, and panics nowhere.
func TestStoreOfNoFiles(t *testing.T) {
	made, e := strata.Start(nil, strata.Options{Block: math.MaxInt})
	if e != strata.OK {
		t.Fatalf("P10: %d", e)
	}
	for _, s := range []*strata.Store{made, {}} {
		value, e := s.Get("k")
		list, f := s.Scan("", "")
		if value != nil || e != strata.ErrNone || list != nil || f != strata.OK {
			t.Errorf("P11: Get: %d, Scan: %d", e, f)
		}
		for _, e := range []strata.Errno{s.Put("k", nil), s.Del("k"), s.Sync(), s.Flush()} {
			if e != strata.ErrFull {
				t.Errorf("P14: %d", e)
			}
		}
	}
}

// TestErrorsAnswerNothing: P1: with an error every other result is nil.
func TestErrorsAnswerNothing(t *testing.T) {
	s := start(t, files.New(0), strata.Options{})
	s.Put("k", []byte("v"))
	s.Flush()
	s.Del("k")
	for _, key := range []string{"k", "none", "", strings.Repeat("k", 17)} {
		if value, e := s.Get(key); value != nil || e == strata.OK {
			t.Errorf("P1: Get(%q) = %q, %d", key, value, e)
		}
	}
	f := files.New(0)
	f.Create("table 1")
	if s, e := strata.Start(f, strata.Options{}); s != nil || e != strata.ErrTable {
		t.Errorf("P1: Start over a table of no bytes: %d", e)
	}
}
