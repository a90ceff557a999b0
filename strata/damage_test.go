package strata_test

import (
	"slices"
	"strconv"
	"strings"
	"testing"

	"strata/files"
	"strata/strata"
)

// withText is a set of files like f, but for one of them, which has another text.
func withText(f *files.Files, other string, text string) *files.Files {
	g := files.New(0)
	for _, name := range append(f.Names(), other) {
		data, _ := f.Read(name)
		if name == other {
			data = text
		}
		g.Create(name)
		g.Append(name, data)
	}
	return g
}

// readable tells whether a text is a table all of whose blocks make sense.
func readable(text string) bool {
	table, e := strata.Open(text)
	if e == strata.OK {
		_, e = table.List("", "")
	}
	return e == strata.OK
}

// useAll makes all calls of a store, which may answer what they like.
func useAll(s *strata.Store) {
	s.Get("a")
	s.Put("a", []byte("v"))
	s.Del("b")
	s.Sync()
	s.Flush()
	s.Scan("", "")
}

// left is a trial with tables and a log, and the shadows of what it had on the way.
func left(t *testing.T) (*trial, []shadow) {
	t.Helper()
	d := dice(71)
	r := newTrial(t, 0, strata.Options{Block: 30, Bloom: 4})
	r.run(t, without(thrownScript(&d, 60, 5), "Start"))
	r.run(t, []call{{name: "Flush"}, {name: "Put", key: "a"}, {name: "Start"}})
	var had []shadow
	for _, c := range without(without(thrownScript(&d, 30, 5), "Start"), "Flush") {
		had = append(had, shadow{pairs: r.w.copy()})
		r.do(t, c)
	}
	return r, append(had, shadow{pairs: r.w.copy()})
}

// TestDamagedTables: P1: a store is not started over a damaged table, so that nothing wrong is answered for what was written.
func TestDamagedTables(t *testing.T) {
	r, _ := left(t)
	d := dice(72)
	for _, name := range r.f.Names() {
		text, _ := r.f.Read(name)
		if strings.HasPrefix(name, "log") {
			continue
		}
		for at := range text {
			turned, _ := burst(text, 8*at+d.below(8), d.bits()|1)
			for _, wrong := range []string{turned, text[:at], text[at+1:], withSum(turned)} {
				f := withText(r.f, name, wrong)
				s, e := strata.Start(f, strata.Options{})
				if !readable(wrong) && e != strata.ErrTable || (e != strata.OK) != (s == nil) {
					t.Fatalf("P1: Start over a wrong %s: %d", name, e)
				}
				if e == strata.OK {
					useAll(s)
				}
			}
		}
	}
}

// TestDamagedLog: P1, P4: of a damaged log the updates ahead of the damage are there.
func TestDamagedLog(t *testing.T) {
	r, had := left(t)
	name := "log 10"
	text, _ := r.f.Read(name)
	if len(text) < 100 {
		t.Fatalf("%q: %s has %d bytes", r.f.Names(), name, len(text))
	}
	d := dice(73)
	for at := range text {
		turned, _ := burst(text, 8*at+d.below(8), d.bits()|1)
		for _, wrong := range []string{turned, text[:at]} {
			s := start(t, withText(r.f, name, wrong), strata.Options{})
			got, _ := s.Scan("", "")
			if !slices.ContainsFunc(had, func(w shadow) bool { return sameList(got, w.list()) }) {
				t.Fatalf("P4: a log that is wrong at %d: %s", at, shown(got))
			}
			useAll(s)
		}
	}
}

// TestAnyTextAsFile: P1: files that hold anything.
func TestAnyTextAsFile(t *testing.T) {
	for _, name := range []string{"log 1", "table 1", "whole 1", "new"} {
		for _, text := range oddTexts() {
			f := files.New(0)
			f.Create(name)
			f.Append(name, text)
			s, e := strata.Start(f, strata.Options{})
			if (e != strata.OK && e != strata.ErrTable) || (e != strata.OK) != (s == nil) {
				t.Fatalf("P1: %s of %d bytes: %d", name, len(text), e)
			}
			if e == strata.OK {
				useAll(s)
			}
		}
	}
}

// framedLog is a log, however many records it has.
func framedLog(t *testing.T, records []string) string {
	t.Helper()
	log := ""
	for _, record := range records {
		framed, e, _ := strata.Frame([]string{record})
		if e != strata.OK {
			t.Fatalf("P4: %d", e)
		}
		log += framed
	}
	return log
}

// TestWrongUpdates: P1: records that are no updates are not taken for some.
func TestWrongUpdates(t *testing.T) {
	long := strings.Repeat("v", 65)
	for _, record := range []string{"", "\x00", "\x01", "\x00\x00", "\x00\x00v", "\x00\x02k", "\x02\x01k", "\xff\x01k", "\x01\x01kv", "\x00\x01k" + long, "\x00\x11" + strings.Repeat("k", 17), "\x00\xffk"} {
		log := framedLog(t, []string{"\x00\x01kv", record})
		if s, e := strata.Start(withText(files.New(0), "log 1", log), strata.Options{}); e != strata.ErrTable || s != nil {
			t.Errorf("P1: the record %q: %d", record, e)
		}
	}
	for _, record := range []string{"\x00\x01k", "\x00\x01kv", "\x01\x01k", "\x00\x10" + strings.Repeat("k", 16) + long[1:]} {
		start(t, withText(files.New(0), "log 1", framedLog(t, []string{record})), strata.Options{})
	}
}

// TestTooMuchInALog: P1: a log with more keys than a table takes, and than a store has, makes no panic, and nothing that it says is lost.
func TestTooMuchInALog(t *testing.T) {
	var records []string
	for i := range 100 {
		records = append(records, "\x00\x03"+numbered(i)+"v")
	}
	f := withText(files.New(0), "log 1", framedLog(t, records))
	for range 3 {
		s := start(t, f, strata.Options{})
		if e := s.Put("other", nil); e != strata.ErrMany {
			t.Errorf("P11: Put: %d", e)
		}
		useAll(s)
		if list, _ := s.Scan("", ""); len(list) != 100 {
			t.Fatalf("P11: %d pairs", len(list))
		}
	}
}

// TestForeignFiles: P12: files that are none of the store's are left as they are, and change nothing.
func TestForeignFiles(t *testing.T) {
	r := newTrial(t, 0, strata.Options{})
	foreign := []string{"", "log", "log ", "log 0", "log 01", "log +9", "log -9", "log x", "logs 9", "log 9 ", "table", "table 0", "table +5", "table 007", "whole 0x1", "whole 99999999999999999999", "news", "other"}
	for _, name := range foreign {
		r.f.Create(name)
		r.f.Append(name, "text of "+name)
	}
	for i := range 40 {
		r.run(t, []call{{name: "Put", key: strconv.Itoa(i)}, {name: []string{"Start", "Flush", "Sync"}[i%3]}})
	}
	r.do(t, call{name: "Start"})
	r.checkAll(t)
	for _, name := range foreign {
		if text, ok := r.f.Read(name); !ok || text != "text of "+name {
			t.Errorf("P12: the file %q holds %q", name, text)
		}
	}
}

// TestTwoDigits: P12: numbers of files are told apart as numbers, not as texts.
func TestTwoDigits(t *testing.T) {
	r := newTrial(t, 0, strata.Options{})
	for i := range 130 {
		r.run(t, []call{{name: "Put", key: "k", value: strconv.Itoa(i)}, {name: []string{"Start", "Flush", "Start"}[i%3]}})
	}
	r.checkAll(t)
}
