package strata_test

import (
	"strings"
	"testing"

	"strata/files"
	"strata/strata"
)

// quotaScript puts, deletes and flushes, till there are more updates than one log takes.
func quotaScript(d *dice) []call {
	script := without(thrownScript(d, 130, 8), "Start")
	return append(script, call{name: "Sync"}, call{name: "Flush"}, call{name: "Put", key: "last", value: "v"})
}

// size is how many bytes the files hold.
func size(f *files.Files) int {
	n := 0
	for _, name := range f.Names() {
		text, _ := f.Read(name)
		n += len(text)
	}
	return n
}

// TestEveryQuota: P14, P12: a script with every quota: the call within which a step is refused, and all behind it, answer ErrFull and change nothing, and a new store has what the refusing one had.
func TestEveryQuota(t *testing.T) {
	for round, step := range []int{1, 7, 8, 9} {
		refused := true
		for quota := 1; refused; quota += step {
			d := dice(50 + round)
			r := newTrial(t, quota, fewOptions()[round])
			refused = false
			for _, c := range quotaScript(&d) {
				refused = r.do(t, c) || refused
				r.checkPairs(t, c.name)
			}
			if quota < 10 && len(r.w.pairs) > 0 || quota > 5000 {
				t.Fatalf("P14: quota %d: %d pairs", quota, len(r.w.pairs))
			}
			r.do(t, call{name: "Start", o: fewOptions()[quota%5]})
			r.checkPairs(t, "Start")
		}
	}
}

// TestQuotaAndStart: P14, P12: stores that are started in the middle, also over files that are full.
func TestQuotaAndStart(t *testing.T) {
	for quota := 1; quota < 1500; quota += 7 {
		d := dice(quota)
		r := newTrial(t, quota, fewOptions()[quota%5])
		for _, c := range thrownScript(&d, 120, 8) {
			if r.do(t, c) && d.below(4) == 0 {
				r.do(t, call{name: "Start"})
			}
			r.checkPairs(t, c.name)
		}
		r.checkAll(t)
		r.do(t, call{name: "Start"})
		r.checkAll(t)
	}
}

// TestRefused: P14: where there is no room for one byte more, each call that needs one answers ErrFull, and then every other one does.
func TestRefused(t *testing.T) {
	script := []call{{name: "Put", key: "a", value: "1"}, {name: "Put", key: "b"}, {name: "Put", key: "c"}, {name: "Del", key: "b"}}
	loose := newTrial(t, 0, strata.Options{})
	loose.run(t, script)
	last := []call{{name: "Put", key: "a"}, {name: "Put", key: "d", value: "4"}, {name: "Del", key: "a"}, {name: "Flush"}}
	for _, c := range last {
		r := newTrial(t, size(loose.f), strata.Options{})
		r.run(t, script)
		if e := r.s.Sync(); e != strata.OK {
			t.Fatalf("P14: Sync needs no room: %d", e)
		}
		if !r.do(t, c) {
			t.Errorf("P14: %s is not refused", c.name)
		}
		if !r.w.full {
			t.Fatalf("P14: %s: the store is not full", c.name)
		}
		r.run(t, append(last, call{name: "Sync"}, call{name: "Put"}, call{name: "Put", key: "a", value: strings.Repeat("v", 65)}, call{name: "Del", key: "none"}))
		r.checkAll(t)
		r.do(t, call{name: "Start"})
		r.checkAll(t)
	}
}

// TestQuotaOne: P14: with the quota 1 nothing is taken.
func TestQuotaOne(t *testing.T) {
	for starts := range 3 {
		f := files.New(1)
		s := start(t, f, strata.Options{})
		for range starts {
			s = start(t, f, strata.Options{})
		}
		for _, key := range []string{"k", "l", "k", strings.Repeat("m", 16)} {
			if e := s.Put(key, nil); e != strata.ErrFull {
				t.Errorf("P14: quota 1: Put(%q): %d", key, e)
			}
		}
		if e := s.Put("", nil); e != strata.ErrKey {
			t.Errorf("P14: quota 1: Put of no key: %d", e)
		}
		if e := s.Put("k", make([]byte, 65)); e != strata.ErrValue {
			t.Errorf("P14: quota 1: Put of a long value: %d", e)
		}
		for _, s := range []*strata.Store{s, start(t, f, strata.Options{})} {
			if list, e := s.Scan("", ""); e != strata.OK || len(list) > 0 {
				t.Errorf("P14: quota 1: Scan: %d pairs, %d", len(list), e)
			}
		}
	}
}

// TestRefusedFromTheBeginning: P14, P1: a store that can make no step at all answers so from the beginning.
func TestRefusedFromTheBeginning(t *testing.T) {
	r := &trial{nil, start(t, nil, strata.Options{}), shadow{full: true}, true}
	for range 2 {
		r.run(t, []call{{name: "Del", key: "k"}, {name: "Del"}, {name: "Flush"}, {name: "Sync"}, {name: "Put"}, {name: "Put", key: "k"}, {name: "Put", key: "k", value: strings.Repeat("v", 65)}})
		r.checkAll(t)
	}
}
