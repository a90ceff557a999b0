package strata_test

import (
	"slices"
	"strings"
	"testing"

	"strata/files"
	"strata/strata"
)

// TestStartEmpty: P10: over empty files no pair is there, with any options.
func TestStartEmpty(t *testing.T) {
	for _, o := range optionsOfAll() {
		newTrial(t, 0, o).checkAll(t)
	}
}

// TestBuiltWithOptions: P10: the store's tables are built with the options of Start.
func TestBuiltWithOptions(t *testing.T) {
	for _, o := range fewOptions() {
		r := newTrial(t, 0, strata.Options{Block: 9})
		r.do(t, call{name: "Start", o: o})
		for i := range 30 {
			r.do(t, call{name: "Put", key: numbered(i), value: "value of " + numbered(i)})
		}
		r.do(t, call{name: "Flush"})
		want := build(t, o, r.w.list())
		if !slices.ContainsFunc(r.f.Names(), func(name string) bool {
			text, _ := r.f.Read(name)
			return text == want
		}) {
			t.Errorf("P10: %+v: no file has the table", o)
		}
	}
}

// TestTwoSets: P10: stores over two sets of files share nothing, whatever is done to them in turn.
func TestTwoSets(t *testing.T) {
	d := dice(31)
	a, b := newTrial(t, 0, strata.Options{}), newTrial(t, 0, strata.Options{})
	for range 300 {
		a.do(t, thrownCall(&d, 12))
		b.do(t, thrownCall(&d, 12))
		a.checkPairs(t, "a call at another store")
		b.checkPairs(t, "a call at another store")
	}
}

// TestLastStarted: P10: of stores over the same files the last one that was started is used, and the next one has what it had.
func TestLastStarted(t *testing.T) {
	f := files.New(0)
	for i := range 20 {
		s := start(t, f, strata.Options{})
		if e := s.Put(numbered(i), nil); e != strata.OK {
			t.Fatalf("P10: Put at store %d: %d", i, e)
		}
		if i%6 == 5 {
			s.Flush()
		}
		if list, _ := s.Scan("", ""); len(list) != i+1 {
			t.Fatalf("P10: store %d has %d pairs", i, len(list))
		}
	}
}

// TestStoreErrors: P11: the edges of keys and values, and which error is answered where several apply.
func TestStoreErrors(t *testing.T) {
	many := newTrial(t, 0, strata.Options{})
	for i := range 48 {
		many.do(t, call{name: "Put", key: numbered(i)})
	}
	full := newTrial(t, 1, strata.Options{})
	full.do(t, call{name: "Put", key: "refused"})
	for _, r := range []*trial{newTrial(t, 0, strata.Options{}), many, full} {
		for _, key := range []string{"", "k", numbered(7), strings.Repeat("k", 16), strings.Repeat("k", 17), strings.Repeat("k", 1<<16)} {
			for _, size := range []int{65, 64, 0, 1 << 16} {
				value := strings.Repeat("v", size)
				r.run(t, []call{{name: "Put", key: key, value: value}})
				r.checkGet(t, key)
			}
			r.run(t, []call{{name: "Del", key: key}, {name: "Del", key: key}})
			r.checkGet(t, key)
		}
		r.checkAll(t)
	}
}

// TestErrorOrder: P11: the same, answer by answer, at a store that has 48 pairs and then at one of which a step was refused.
func TestErrorOrder(t *testing.T) {
	var long [65]byte
	f := files.New(2000)
	s := start(t, f, strata.Options{})
	for i := range 48 {
		s.Put(numbered(i), nil)
	}
	check := func(key string, size int, put strata.Errno, del strata.Errno) {
		t.Helper()
		if e := s.Put(key, long[:size]); e != put {
			t.Errorf("P11: Put(%q) of %d bytes: %d, want %d", key, size, e, put)
		}
		if e := s.Del(key); e != del {
			t.Errorf("P11: Del(%q): %d, want %d", key, e, del)
		}
	}
	tooLong := strings.Repeat("k", 17)
	check("", 65, strata.ErrKey, strata.ErrKey)
	check(tooLong, 65, strata.ErrKey, strata.ErrKey)
	check("other", 65, strata.ErrValue, strata.ErrNone)
	check("other", 64, strata.ErrMany, strata.ErrNone)
	for s.Put(numbered(3), long[:64]) == strata.OK {
	}
	check("", 65, strata.ErrKey, strata.ErrKey)
	check(tooLong, 0, strata.ErrKey, strata.ErrKey)
	check("other", 65, strata.ErrValue, strata.ErrFull)
	check("other", 64, strata.ErrFull, strata.ErrFull)
	check(numbered(3), 0, strata.ErrFull, strata.ErrFull)
}

// TestMaxPairs: P11: 48 pairs and no more, wherever they lie; a key that is there, and one in the place of a deleted one, are taken.
func TestMaxPairs(t *testing.T) {
	for _, every := range []int{1, 5, 13, 47, 48, 100} {
		r := newTrial(t, 0, fewOptions()[2])
		for i := range 48 {
			r.do(t, call{name: "Put", key: numbered(i), value: "v"})
			if i%every == every-1 {
				r.do(t, call{name: "Flush"})
			}
		}
		for _, name := range []string{"Sync", "Flush", "Start"} {
			r.run(t, []call{
				{name: "Put", key: "over"}, {name: "Put", key: numbered(0), value: "new"}, {name: "Put", key: numbered(47)},
				{name: name}, {name: "Put", key: "over"}, {name: "Del", key: "over"},
				{name: "Del", key: numbered(20)}, {name: "Put", key: "over"}, {name: "Put", key: numbered(20)},
				{name: name}, {name: "Put", key: numbered(20)}, {name: "Del", key: "over"}, {name: "Put", key: numbered(20)},
			})
			r.checkAll(t)
		}
	}
}

// TestDel: P11: Del of a key that is there, that is not, that was deleted, that only a table holds, and that is put anew.
func TestDel(t *testing.T) {
	for _, o := range fewOptions() {
		for _, name := range []string{"Sync", "Flush", "Start"} {
			r := newTrial(t, 0, o)
			put, del, between := call{name: "Put", key: "k", value: "v"}, call{name: "Del", key: "k"}, call{name: name, o: o}
			r.run(t, []call{del, between, put, {name: "Put", key: "kk"}, del, del, between, del, put, between, del, between, del})
			r.run(t, []call{put, between, between, del, put, del, between, {name: "Put", key: "k", value: "anew"}, between})
			r.checkAll(t)
			r.run(t, []call{del, {name: "Del", key: "kk"}, between, del})
			r.checkAll(t)
		}
	}
}

// TestScanMixed: P11: Get and Scan at, between and beyond the keys, with pairs in memory and in many tables, hidden and dead ones among them.
func TestScanMixed(t *testing.T) {
	for _, o := range fewOptions() {
		r := newTrial(t, 0, o)
		for round := range 7 {
			for i, entry := range edgeList() {
				if (i+round)%3 == 0 {
					r.do(t, call{name: "Put", key: entry.Key, value: strings.Repeat("r", round)})
				}
				if (i+round)%5 == 1 {
					r.do(t, call{name: "Del", key: entry.Key})
				}
			}
			r.checkAll(t)
			r.do(t, call{name: "Flush"})
			r.checkAll(t)
		}
	}
}

// TestScripts: P11: any mix of calls.
func TestScripts(t *testing.T) {
	d := dice(32)
	for i := range 60 {
		r := newTrial(t, 0, fewOptions()[i%5])
		r.run(t, thrownScript(&d, 300, []int{3, 20, 40, 200}[i%4]))
		r.checkAll(t)
	}
}

// TestLongScript: P11: more updates than a log takes records, with no Flush asked for.
func TestLongScript(t *testing.T) {
	d := dice(33)
	for _, keys := range []int{1, 16, 30} {
		r := newTrial(t, 0, fewOptions()[2])
		script := without(without(thrownScript(&d, 1500, keys), "Flush"), "Start")
		r.run(t, script)
		r.checkAll(t)
		if steps := r.f.Steps(); steps > len(script)*5/4 {
			t.Errorf("%d calls make %d steps: what is in memory is flushed too often", len(script), steps)
		}
		r.run(t, []call{{name: "Start"}, {name: "Flush"}, {name: "Start"}})
	}
}

// TestFlushOfNothing: P11: it answers OK, and changes nothing.
func TestFlushOfNothing(t *testing.T) {
	r := newTrial(t, 0, strata.Options{})
	flush := call{name: "Flush"}
	r.run(t, []call{flush, flush, {name: "Sync"}, {name: "Put", key: "k"}, flush, flush, {name: "Del", key: "k"}, flush, flush, {name: "Start"}, flush})
	r.checkAll(t)
}

// TestManyFlushes: P11, P12: and the files do not grow with them, as a table takes the place of what it stands for.
func TestManyFlushes(t *testing.T) {
	r := newTrial(t, 0, fewOptions()[1])
	d := dice(34)
	for i := range 400 {
		c := thrownCall(&d, 15)
		if i%2 == 0 {
			c.name = "Flush"
		}
		r.do(t, c)
		r.checkPairs(t, c.name)
		if n := len(r.f.Names()); n > 8 {
			t.Fatalf("behind %d calls there are %d files: %q", i, n, r.f.Names())
		}
	}
	r.checkAll(t)
}
