package strata_test

import (
	"slices"
	"strconv"
	"strings"
	"testing"

	"strata/files"
	"strata/strata"
)

// powerTrial is a trial whose power may fail.
type powerTrial struct {
	*trial
	may    []shadow // what a store may have that is started behind a loss of power: the pairs behind each update
	least  int      // the first of them that is left
	starts int      // how many stores were started behind a loss of power
}

func newPowerTrial(t *testing.T, quota int, o strata.Options) *powerTrial {
	t.Helper()
	p := &powerTrial{trial: newTrial(t, quota, o)}
	p.settle()
	return p
}

// settle: what the store has now stands for good.
func (p *powerTrial) settle() {
	p.may, p.least = append(p.may, shadow{pairs: p.w.copy()}), len(p.may)
}

// do makes a call, and takes down what P13 says of it. While power is lost no store is started: P12 and P13 tell nothing of what it has.
func (p *powerTrial) do(t *testing.T, c call) {
	t.Helper()
	was := p.f.Lost()
	if was && c.name == "Start" || p.trial.do(t, c) || was {
		return
	}
	p.may = append(p.may, shadow{pairs: p.w.copy()})
	if c.name != "Put" && c.name != "Del" && !p.f.Lost() {
		p.least = len(p.may) - 1
	}
}

func (p *powerTrial) doAll(t *testing.T, script []call) {
	t.Helper()
	for _, c := range script {
		p.do(t, c)
	}
}

// restart starts a store, with other options each time.
func (p *powerTrial) restart(t *testing.T) {
	t.Helper()
	p.starts++
	p.trial.do(t, call{name: "Start", o: fewOptions()[p.starts%5]})
}

// restore brings power back, holds P13 against the first store that is started then, and loses power again and again.
func (p *powerTrial) restore(t *testing.T, keep []int) {
	t.Helper()
	p.f.Power(keep)
	p.f.Fuse(0)
	p.restart(t)
	p.accept(t, keep)
	p.loseAgain(t)
	p.checkTidy(t)
	p.may = nil
	p.settle()
}

// accept holds P13 against what the first store has behind a loss of power.
func (p *powerTrial) accept(t *testing.T, keep []int) {
	t.Helper()
	got, _ := p.s.Scan("", "")
	at := slices.IndexFunc(p.may[p.least:], func(w shadow) bool { return sameList(got, w.list()) })
	if at < 0 {
		t.Fatalf("P13: keep %v: %s is none of %d", keep, shown(got), len(p.may)-p.least)
	}
	p.w = shadow{pairs: p.may[p.least+at].copy()}
}

// loseAgain: P13: what the first store has stands. Power fails within the next one ahead of its first step, then within one ahead of its second step, and so on, till one is started to its end, and power fails behind that.
func (p *powerTrial) loseAgain(t *testing.T) {
	t.Helper()
	for fuse, lost := 0, true; lost; fuse++ {
		p.f.Power(keeps()[(p.starts+fuse)%9])
		p.f.Fuse(fuse)
		p.restart(t)
		p.checkPairs(t, "another loss of power")
		lost = p.f.Lost()
	}
	p.f.Power(keeps()[p.starts%9])
	p.restart(t)
	p.checkPairs(t, "a loss of power behind Start")
}

// checkTidy: a Start leaves no table that was not written to its end, and no file whose place a table has taken.
func (p *powerTrial) checkTidy(t *testing.T) {
	t.Helper()
	greatest := map[string]int{}
	for range 2 {
		for _, name := range p.f.Names() {
			kind, text, _ := strings.Cut(name, " ")
			n, _ := strconv.Atoi(text)
			if kind == "new" || kind != "log" && n < greatest["whole"] || kind == "log" && n <= max(greatest["whole"], greatest["table"]) {
				t.Fatalf("behind Start there is %q among %q", name, p.f.Names())
			}
			if kind != "log" {
				greatest[kind] = max(greatest[kind], n)
			}
		}
	}
}

// keeps are some ways to tell Power what is left.
func keeps() [][]int {
	return [][]int{nil, {1 << 30}, {1}, {5}, {9, 0}, {0, 17, 3}, {23, 40, 11, 2}, {100, 1}, {-7}}
}

// sizes are the bytes of each file.
func sizes(f *files.Files) []int {
	var list []int
	for _, name := range f.Names() {
		text, _ := f.Read(name)
		list = append(list, len(text))
	}
	return list
}

// loose counts, file by file, the bytes that do not stand. (They are gone then.)
func loose(f *files.Files) []int {
	counts := sizes(f)
	f.Power(nil)
	for i, n := range sizes(f) {
		counts[i] -= n
	}
	return counts
}

// leavings tells Power, file by file, to leave each number of the loose bytes, none and all of them too, and of the other files' none, or all. A stride above 1 leaves numbers out.
func leavings(counts []int, stride int) [][]int {
	list := [][]int{make([]int, len(counts)), counts}
	for i, count := range counts {
		for n := 0; n <= count; n++ {
			if n%stride != 0 && n != 1 && n < count-1 {
				continue
			}
			for _, keep := range [][]int{make([]int, len(counts)), slices.Clone(counts)} {
				keep[i] = n
				list = append(list, keep)
			}
		}
	}
	return list
}

// loss is a script at whose steps power is to fail.
type loss struct {
	quota  int
	o      strata.Options
	ahead  []call // is done with power
	script []call
	stride int // for leavings
}

// fail does the script; power fails ahead of the step with the number fuse.
func (l loss) fail(t *testing.T, fuse int) *powerTrial {
	t.Helper()
	p := newPowerTrial(t, l.quota, l.o)
	p.doAll(t, l.ahead)
	p.f.Fuse(fuse)
	p.doAll(t, l.script)
	return p
}

// steps is how many steps the script has.
func (l loss) steps(t *testing.T) int {
	t.Helper()
	p := newPowerTrial(t, l.quota, l.o)
	p.doAll(t, l.ahead)
	n := p.f.Steps()
	p.doAll(t, l.script)
	return p.f.Steps() - n
}

// everywhere lets power fail at every step of the script, and behind it, and leaves of the loose bytes what leavings tells. Each time more is put then, and synced, and power fails once more.
func (l loss) everywhere(t *testing.T) {
	t.Helper()
	for fuse := range l.steps(t) + 1 {
		for i, keep := range leavings(loose(l.fail(t, fuse).f), l.stride) {
			p := l.fail(t, fuse)
			p.restore(t, keep)
			p.doAll(t, []call{{name: "Put", key: "more", value: "m"}, {name: "Put", key: "a", value: "b"}, {name: "Del", key: "more"}, {name: "Sync"}, {name: "Put", key: "more"}})
			p.restore(t, keeps()[i%9])
			p.checkGet(t, "more")
		}
	}
}

// parse makes a script of words: a key and = and a value is put, a key behind - is deleted, and Sync, Flush and Start are themselves, Start with other options each time.
func parse(words string) []call {
	var script []call
	for i, word := range strings.Fields(words) {
		key, value, put := strings.Cut(word, "=")
		gone, del := strings.CutPrefix(word, "-")
		switch {
		case put:
			script = append(script, call{name: "Put", key: key, value: value})
		case del:
			script = append(script, call{name: "Del", key: gone})
		default:
			script = append(script, call{name: word, o: fewOptions()[i%5]})
		}
	}
	return script
}
