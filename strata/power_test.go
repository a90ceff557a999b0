package strata_test

import (
	"slices"
	"strconv"
	"testing"

	"strata/files"
	"strata/strata"
)

// TestPowerLeavesEachNumber: P13: power fails at every step of a script, and each number of the bytes that do not stand is left.
func TestPowerLeavesEachNumber(t *testing.T) {
	for i, words := range []string{
		"",
		"Sync Flush Start Flush Sync",
		"a=1 b=22 Sync a=3 -b Flush c= -a Start d=4 -c Sync b=5 a=6",
		"a=1 b=2 -a Flush Start c=3 Start Start -b Sync d=4 Flush e=5",
		"=x a=1 -none -b Sync 12345678901234567=8 - a= -a -a a=2 Flush -none",
	} {
		loss{o: fewOptions()[i], script: parse(words), stride: 1}.everywhere(t)
	}
}

// TestPowerAndAKeyPutAnew: P13: a key is put, deleted and put anew across Flushes, as many as merge all tables.
func TestPowerAndAKeyPutAnew(t *testing.T) {
	for _, words := range []string{
		"k=1 Flush -k Flush k=2 Flush -k k=3 Flush -k Flush k=4 Flush",
		"k=1 a=1 Flush -k Start Flush k=2 Sync Flush -k -a Flush Start -none Flush a=2 Flush k=5 -k Flush",
		"k=1 Sync -k k=2 Flush -k Sync k=3 Start -k Flush k=4",
	} {
		loss{o: fewOptions()[2], script: parse(words), stride: 1}.everywhere(t)
	}
}

// TestPowerAndManyFlushes: P13: many Flushes, some with nothing in memory, also of a store that has just been started.
func TestPowerAndManyFlushes(t *testing.T) {
	words := "Flush "
	for i := range 12 {
		n := strconv.Itoa(i)
		words += "k" + strconv.Itoa(i%5) + "=" + n + " Flush " + []string{"Flush ", "Start Flush ", "x=" + n + " "}[i%3]
	}
	loss{script: parse(words), stride: 7}.everywhere(t)
}

// putMany is so many Puts of keys that go round.
func putMany(n int, keys int) []call {
	var script []call
	for i := range n {
		script = append(script, call{name: "Put", key: numbered(i % keys), value: strconv.Itoa(i)})
	}
	return script
}

// TestPowerAnd48Pairs: P13: a store with as many pairs as it may have.
func TestPowerAnd48Pairs(t *testing.T) {
	for _, words := range []string{"", "Sync", "Flush", "Start"} {
		script := append(parse("one=more -n07 one=more two=more Flush -one n07=9 Flush"), call{name: "Put", key: "n48"})
		loss{ahead: append(putMany(48, 48), parse(words)...), script: script, stride: 101}.everywhere(t)
	}
}

// TestPowerWithinPutsOwnFlush: P13: there are as many updates as bring a Put, or a Del, to flush.
func TestPowerWithinPutsOwnFlush(t *testing.T) {
	for _, words := range []string{"a=1 b=2 c=3 Sync", "-n01 -n02 -n03 n02=2", "Sync a=1 Start b=1 c=2"} {
		loss{ahead: putMany(62, 20), script: parse(words), stride: 97}.everywhere(t)
		loss{ahead: append(parse("a=1 Flush b=2 Flush c=3 Flush d=4 Flush"), putMany(62, 20)...), script: parse(words), stride: 97}.everywhere(t)
	}
}

// TestPowerWithinStart: P13: power fails within Start, at each of its steps, and within the Start behind it, at each of its steps, whatever the loss of power ahead of them has left.
func TestPowerWithinStart(t *testing.T) {
	words := "k=1 Flush a=1 -k Flush Sync k=2 Flush b=1 Flush -b Start k=4 Start Flush c=3"
	l := loss{script: parse(words), stride: 1000}
	for fuse := range l.steps(t) + 1 {
		for _, keep := range leavings(loose(l.fail(t, fuse).f), l.stride) {
			for first := 0; l.failWithinStarts(t, fuse, keep, first); first++ {
				for second := 0; l.failWithinStarts(t, fuse, keep, first, second); second++ {
				}
			}
		}
	}
}

// failWithinStarts lets power fail within the script, and then within a Start for each of the fuses. It tells whether power failed within the last of them.
func (l loss) failWithinStarts(t *testing.T, fuse int, keep []int, fuses ...int) bool {
	t.Helper()
	p := l.fail(t, fuse)
	p.f.Power(keep)
	lost := false
	for _, n := range fuses {
		p.f.Fuse(n)
		p.restart(t)
		p.accept(t, keep)
		lost = p.f.Lost()
		p.f.Power(keep)
	}
	p.restore(t, keep)
	return lost
}

// TestPowerCutsARecord: P13: a log ends in a piece of a record, of every length: what is put behind it, and synced, is there behind the next Start and the next loss of power; and so again, behind the next piece.
func TestPowerCutsARecord(t *testing.T) {
	for keep := range recordLength(t, "cut", "n00") + 1 {
		p := newPowerTrial(t, 0, strata.Options{})
		for round := range 70 {
			n := numbered(round % 40)
			p.doAll(t, parse("good"+n+"="+n+" Sync cut="+n))
			p.f.Power([]int{keep})
			p.restart(t)
			p.accept(t, []int{keep})
			p.doAll(t, parse("behind="+n+" Sync"))
			p.restart(t)
			p.checkPairs(t, "Start")
			p.f.Power(nil)
			p.restart(t)
			p.checkPairs(t, "a loss of power")
			p.settle()
		}
	}
}

// recordLength is how many bytes a Put lays.
func recordLength(t *testing.T, key string, value string) int {
	t.Helper()
	f := files.New(0)
	s := start(t, f, strata.Options{})
	had := size(f)
	s.Put(key, []byte(value))
	return size(f) - had
}

// TestWhatStands: P13: what stands ahead of a Sync, a Flush or a Start is there, if nothing else is left.
func TestWhatStands(t *testing.T) {
	for _, x := range [][2]string{
		{"a=1 b=2 Sync", `"a"="1" "b"="2" `},
		{"a=1 b=2 Flush", `"a"="1" "b"="2" `},
		{"a=1 b=2 Start", `"a"="1" "b"="2" `},
		{"a=1 Sync -a Sync", ""},
		{"a=1 Flush -a Flush", ""},
		{"a=1 Flush -a Sync", ""},
		{"a=1 Start -a Start", ""},
		{"a=1 Sync b=2 Flush c=3 Start", `"a"="1" "b"="2" "c"="3" `},
		{"a=1 Flush b=2 Sync Flush Flush", `"a"="1" "b"="2" `},
		{"a=1 Start Flush Flush", `"a"="1" `},
		{"a=1 Start Start b=2 Sync", `"a"="1" "b"="2" `},
	} {
		words, want := x[0], x[1]
		p := newPowerTrial(t, 0, strata.Options{})
		p.doAll(t, parse(words))
		for range 3 {
			p.f.Power(nil)
			p.restart(t)
			if got, _ := p.s.Scan("", ""); shown(got) != want {
				t.Errorf("P13: %s: %s, want %s", words, shown(got), want)
			}
		}
	}
}

// TestWhileLost: P13, P11: while power is lost a store goes on as ever; what was done then is gone behind it.
func TestWhileLost(t *testing.T) {
	p := newPowerTrial(t, 0, strata.Options{})
	p.doAll(t, parse("a=1 b=2 Sync"))
	p.f.Fuse(0)
	for _, c := range append(putMany(200, 40), parse("Sync Flush -a -none = c=3 Flush -c Flush Sync")...) {
		p.do(t, c)
		p.checkPairs(t, c.name)
	}
	p.checkAll(t)
	p.f.Power(nil)
	p.restart(t)
	if got, _ := p.s.Scan("", ""); shown(got) != `"a"="1" "b"="2" ` {
		t.Errorf("P13: %s", shown(got))
	}
}

// TestPowerAtEachStep: P13: power fails at every step of a thrown script, and of what is done behind it.
func TestPowerAtEachStep(t *testing.T) {
	for round := range 4 {
		d := dice(60 + round)
		l := loss{o: fewOptions()[round], script: thrownScript(&d, 100, 9)}
		for fuse := range l.steps(t) + 1 {
			p := l.fail(t, fuse)
			p.restore(t, keeps()[fuse%9])
			p.doAll(t, l.script[:20])
			p.restore(t, keeps()[fuse%7])
		}
	}
}

// TestPowerAgain: P13, P14: power fails again and again, with a quota and without.
func TestPowerAgain(t *testing.T) {
	for round := range 120 {
		d := dice(1000 + round)
		p := newPowerTrial(t, round%3*d.below(2000), fewOptions()[round%5])
		for range 12 {
			p.f.Fuse(d.below(60))
			for _, c := range thrownScript(&d, d.below(60), 9) {
				p.do(t, c)
				p.checkPairs(t, c.name)
			}
			p.restore(t, keeps()[d.below(9)])
		}
		p.checkAll(t)
	}
}

// TestPowerAndQuota: P13, P14: every quota by which another call of a script is the first one that is refused, and one by which none is. Power fails at every step, ahead of the refused one and, as the store makes none behind it, within the Starts behind it.
func TestPowerAndQuota(t *testing.T) {
	seen := map[string]int{}
	for _, l := range []loss{
		{script: parse("a=1 b=22 Sync -a Flush c=3 a=4 -b Start b=5 Flush Start d=6 -c Sync Flush Flush -a"), stride: 5},
		{ahead: putMany(60, 5), script: parse("a=1 b=2 -a a=3 b=4 a=5 Start b=6"), stride: 50},
	} {
		kind, last, at := "", -1, 0
		for l.quota = 1; at >= 0; l.quota++ {
			kind, at = l.refused(t)
			if at < 0 || at >= len(l.ahead) && at != last {
				seen[kind]++
				l.everywhere(t)
			}
			last = at
		}
	}
	for _, kind := range []string{"Put", "Del", "Flush", "Flush within Put", "none"} {
		if seen[kind] == 0 {
			t.Errorf("no quota refuses %q: %v", kind, seen)
		}
	}
}

// refused tells the first call that the quota refuses, and its number, or -1: there is none. A store that is refused within a Flush has begun a file.
func (l loss) refused(t *testing.T) (string, int) {
	t.Helper()
	p := newPowerTrial(t, l.quota, l.o)
	for i, c := range slices.Concat(l.ahead, l.script) {
		had := len(p.f.Names())
		p.do(t, c)
		switch {
		case p.w.full && c.name == "Put" && len(p.f.Names()) > had:
			return "Flush within Put", i
		case p.w.full:
			return c.name, i
		}
	}
	return "none", -1
}
