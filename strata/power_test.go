package strata_test

import (
	"strconv"
	"strings"
	"testing"

	"strata/strata"
)

// powerTrial is a trial whose power may fail.
type powerTrial struct {
	*trial
	may   []shadow // what a store may have that is started behind a loss of power: the pairs behind each update
	least int      // the first of them that is left
}

func newPowerTrial(t *testing.T, quota int, o strata.Options) *powerTrial {
	p := &powerTrial{trial: newTrial(t, quota, o)}
	p.settle()
	return p
}

// settle: what the store has now stands for good.
func (p *powerTrial) settle() {
	p.may, p.least = append(p.may, shadow{pairs: p.w.copy()}), len(p.may)
}

// do makes a call, and takes down what P13 says of it. While power is lost no store is started: P12 and P13 tell nothing of what it has.
func (p *powerTrial) do(t *testing.T, c call) {
	t.Helper()
	was := p.f.Lost()
	if was && c.name == "Start" || p.trial.do(t, c) || was {
		return
	}
	p.may = append(p.may, shadow{pairs: p.w.copy()})
	if c.name != "Put" && c.name != "Del" && !p.f.Lost() {
		p.least = len(p.may) - 1
	}
}

// restore brings power back, starts a store, and holds P13 against what it has, also behind another loss of power.
func (p *powerTrial) restore(t *testing.T, keep []int) {
	t.Helper()
	p.f.Power(keep)
	p.trial.do(t, call{name: "Start"})
	got, _ := p.s.Scan("", "")
	found := -1
	for i, w := range p.may[p.least:] {
		if sameList(got, w.list()) {
			found = i + p.least
		}
	}
	if found < 0 {
		t.Fatalf("P13: keep %v: %s is none of %d", keep, shown(got), len(p.may)-p.least)
	}
	p.w = shadow{pairs: p.may[found].copy()}
	p.may = nil
	p.settle()
	p.checkTidy(t)
	p.f.Power(nil)
	p.trial.do(t, call{name: "Start"})
	p.checkPairs(t, "a second loss of power")
}

// checkTidy: a Start leaves no table that was not written to its end, and no file whose place a table has taken.
func (p *powerTrial) checkTidy(t *testing.T) {
	t.Helper()
	greatest := map[string]int{}
	for range 2 {
		for _, name := range p.f.Names() {
			kind, text, _ := strings.Cut(name, " ")
			n, _ := strconv.Atoi(text)
			if kind == "new" || kind != "log" && n < greatest["whole"] || kind == "log" && n <= max(greatest["whole"], greatest["table"]) {
				t.Fatalf("behind Start there is %q among %q", name, p.f.Names())
			}
			if kind != "log" {
				greatest[kind] = max(greatest[kind], n)
			}
		}
	}
}

func keeps() [][]int {
	return [][]int{nil, {1 << 30}, {1}, {5}, {9, 0}, {0, 17, 3}, {23, 40, 11, 2}, {100, 1}, {-7}}
}

// TestPowerAtEachStep: P13: power fails at every step of a script, and of what is done behind it.
func TestPowerAtEachStep(t *testing.T) {
	for round := range 4 {
		d := dice(60 + round)
		script := thrownScript(&d, 100, 9)
		for fuse := 0; ; fuse++ {
			p := newPowerTrial(t, 0, fewOptions()[round])
			p.f.Fuse(fuse)
			for _, c := range script {
				p.do(t, c)
			}
			lost := p.f.Lost()
			p.restore(t, keeps()[fuse%9])
			for _, c := range script[:20] {
				p.do(t, c)
			}
			p.restore(t, keeps()[fuse%7])
			if !lost {
				break
			}
		}
	}
}

// TestPowerAgain: P13, P14: power fails again and again, with a quota and without.
func TestPowerAgain(t *testing.T) {
	for round := range 120 {
		d := dice(1000 + round)
		p := newPowerTrial(t, round%3*d.below(2000), fewOptions()[round%5])
		for range 12 {
			p.f.Fuse(d.below(60))
			for _, c := range thrownScript(&d, d.below(60), 9) {
				p.do(t, c)
				p.checkPairs(t, c.name)
			}
			p.restore(t, keeps()[d.below(9)])
		}
		p.checkAll(t)
	}
}

// TestPowerAtStart: P13: power fails within Start, at each of its steps, also of the Start behind that.
func TestPowerAtStart(t *testing.T) {
	for fuse := range 12 {
		for again := range 12 {
			for _, keep := range keeps() {
				p := newPowerTrial(t, 0, strata.Options{})
				for _, c := range []call{{name: "Put", key: "a", value: "1"}, {name: "Flush"}, {name: "Put", key: "b"}, {name: "Sync"}, {name: "Put", key: "c"}, {name: "Del", key: "a"}} {
					p.do(t, c)
				}
				p.f.Fuse(fuse)
				p.do(t, call{name: "Start"})
				p.f.Power(keep)
				p.f.Fuse(again)
				p.s = start(t, p.f, strata.Options{})
				p.restore(t, keep)
				p.do(t, call{name: "Put", key: "d"})
				p.do(t, call{name: "Sync"})
				p.restore(t, keep)
			}
		}
	}
}
