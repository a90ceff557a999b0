package strata_test

import (
	"strconv"
	"testing"

	"strata/strata"
)

// TestStartBehindEachCall: P12: a Start behind every call, with other options each time, and then more of them.
func TestStartBehindEachCall(t *testing.T) {
	d := dice(41)
	all := optionsOfAll()
	for round := range 20 {
		r := newTrial(t, 0, all[round])
		for i, c := range thrownScript(&d, 150, []int{4, 30, 100}[round%3]) {
			r.do(t, c)
			r.do(t, call{name: "Start", o: all[(round*7+i)%len(all)]})
			r.checkPairs(t, c.name+" and Start")
		}
		r.checkAll(t)
	}
}

// TestStartAgain: P12: every kind of call with one, two and three Starts behind it.
func TestStartAgain(t *testing.T) {
	for _, name := range []string{"Put", "Del", "Sync", "Flush", "Start"} {
		for starts := range 4 {
			r := newTrial(t, 0, strata.Options{})
			for i := range 30 {
				r.do(t, call{name: "Put", key: "k" + strconv.Itoa(i%9), value: strconv.Itoa(i)})
				r.do(t, call{name: name, key: "k" + strconv.Itoa(i%4)})
				for range starts {
					r.do(t, call{name: "Start"})
				}
				r.checkPairs(t, name)
			}
			r.checkAll(t)
		}
	}
}

// TestStartOfMany: P12: 48 pairs of the longest keys and values.
func TestStartOfMany(t *testing.T) {
	for _, o := range fewOptions() {
		r := newTrial(t, 0, o)
		for _, entry := range greatList() {
			r.do(t, call{name: "Put", key: entry.Key, value: string(entry.Value)})
		}
		r.run(t, []call{{name: "Start"}, {name: "Flush"}, {name: "Start", o: o}, {name: "Flush"}})
		r.checkAll(t)
		for _, entry := range greatList() {
			r.do(t, call{name: "Del", key: entry.Key})
		}
		r.run(t, []call{{name: "Start"}, {name: "Flush"}, {name: "Start", o: o}, {name: "Flush"}})
		r.checkAll(t)
	}
}

// TestManyStarts: P12: the files do not grow with them.
func TestManyStarts(t *testing.T) {
	r := newTrial(t, 0, strata.Options{})
	r.do(t, call{name: "Put", key: "k", value: "v"})
	for range 500 {
		r.do(t, call{name: "Start"})
		if n := len(r.f.Names()); n > 8 {
			t.Fatalf("there are %d files: %q", n, r.f.Names())
		}
	}
	r.checkAll(t)
}
