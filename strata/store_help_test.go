package strata_test

import (
	"maps"
	"slices"
	"strconv"
	"strings"
	"testing"

	"strata/files"
	"strata/strata"
)

// start starts a store; P10 and P14 let it answer OK alone.
func start(t *testing.T, f *files.Files, o strata.Options) *strata.Store {
	t.Helper()
	s, e := strata.Start(f, o)
	if e != strata.OK || s == nil {
		t.Fatalf("P10: Start answers error %d", e)
	}
	return s
}

// shadow is what the document says of a store that some calls were made at.
type shadow struct {
	pairs map[string]string
	full  bool // a step was refused
}

// put is what P11 lets Put answer, and does to the pairs what it does.
func (w *shadow) put(key string, value string) strata.Errno {
	_, there := w.pairs[key]
	switch {
	case len(key) < 1 || len(key) > 16:
		return strata.ErrKey
	case len(value) > 64:
		return strata.ErrValue
	case w.full:
		return strata.ErrFull
	case !there && len(w.pairs) >= 48:
		return strata.ErrMany
	}
	w.pairs[key] = value
	return strata.OK
}

// del is for Del what put is for Put.
func (w *shadow) del(key string) strata.Errno {
	_, there := w.pairs[key]
	switch {
	case len(key) < 1 || len(key) > 16:
		return strata.ErrKey
	case w.full:
		return strata.ErrFull
	case !there:
		return strata.ErrNone
	}
	delete(w.pairs, key)
	return strata.OK
}

// stand is what Sync and Flush answer.
func (w *shadow) stand() strata.Errno {
	if w.full {
		return strata.ErrFull
	}
	return strata.OK
}

func (w *shadow) copy() map[string]string { return maps.Clone(w.pairs) }

// list is what Scan("", "") answers.
func (w *shadow) list() []strata.Entry {
	var list []strata.Entry
	for _, key := range slices.Sorted(maps.Keys(w.pairs)) {
		list = append(list, alive(key, w.pairs[key]))
	}
	return list
}

// shown is a list to be read.
func shown(list []strata.Entry) string {
	text := ""
	for _, entry := range list {
		text += strconv.Quote(entry.Key) + "=" + strconv.Quote(string(entry.Value)) + " "
	}
	return text
}

// call is a call of a store, or a Start over its files.
type call struct {
	name, key, value string
	o                strata.Options
}

// trial is a store and its shadow, to which the same is done.
type trial struct {
	f     *files.Files
	s     *strata.Store
	w     shadow
	quota bool
}

func newTrial(t *testing.T, quota int, o strata.Options) *trial {
	t.Helper()
	f := files.New(quota)
	return &trial{f, start(t, f, o), shadow{pairs: map[string]string{}}, quota > 0}
}

// ask makes a call at the store.
func (r *trial) ask(t *testing.T, c call) strata.Errno {
	t.Helper()
	switch c.name {
	case "Put":
		return r.s.Put(c.key, []byte(c.value))
	case "Del":
		return r.s.Del(c.key)
	case "Sync":
		return r.s.Sync()
	case "Flush":
		return r.s.Flush()
	}
	r.s = start(t, r.f, c.o)
	return strata.OK
}

// told is what the shadow says of a call. A new store knows nothing of what was refused ahead of it.
func (w *shadow) told(c call) strata.Errno {
	switch c.name {
	case "Put":
		return w.put(c.key, c.value)
	case "Del":
		return w.del(c.key)
	case "Sync", "Flush":
		return w.stand()
	}
	w.full = false
	return strata.OK
}

// do makes a call, and holds its answer against the shadow's: another one is right only where a step may have been refused, and is ErrFull then. It answers whether the call was refused.
func (r *trial) do(t *testing.T, c call) bool {
	t.Helper()
	had := r.w.copy()
	want := r.w.told(c)
	got := r.ask(t, c)
	if got == want {
		return got == strata.ErrFull
	}
	if !r.quota || want != strata.OK || got != strata.ErrFull {
		t.Fatalf("P11, P14: %s(%q, %q) answers %d, want %d", c.name, c.key, c.value, got, want)
	}
	r.w = shadow{had, true}
	return true
}

// checkPairs holds what Scan says of all pairs.
func (r *trial) checkPairs(t *testing.T, behind string) {
	t.Helper()
	got, e := r.s.Scan("", "")
	if e != strata.OK || !sameList(got, r.w.list()) {
		t.Fatalf("behind %s: %d pairs, error %d, want %d: %s, want %s", behind, len(got), e, len(r.w.pairs), shown(got), shown(r.w.list()))
	}
}

// checkAll holds what Get and Scan say at and around all keys.
func (r *trial) checkAll(t *testing.T) {
	t.Helper()
	r.checkPairs(t, "all")
	list := r.w.list()
	keys := keysAround(list)
	for i, key := range keys {
		r.checkGet(t, key)
		for _, ends := range [][2]string{{key, ""}, {"", key}, {key, key}, {key, keys[i*7%len(keys)]}, {key, keys[min(i+3, len(keys)-1)]}} {
			got, e := r.s.Scan(ends[0], ends[1])
			if want := fromTo(list, ends[0], ends[1]); e != strata.OK || !sameList(got, want) {
				t.Fatalf("P11: Scan(%q, %q) = %s, error %d, want %s", ends[0], ends[1], shown(got), e, shown(want))
			}
		}
	}
}

// checkGet holds what P11 says of Get.
func (r *trial) checkGet(t *testing.T, key string) {
	t.Helper()
	want, there := r.w.pairs[key]
	e := strata.OK
	switch {
	case len(key) < 1 || len(key) > 16:
		e = strata.ErrKey
	case !there:
		e = strata.ErrNone
	}
	got, f := r.s.Get(key)
	if f != e || string(got) != want || (e != strata.OK && got != nil) {
		t.Fatalf("P11: Get(%q) = %q, error %d, want %q, error %d", key, got, f, want, e)
	}
}

// run does a script, and holds the pairs behind each call.
func (r *trial) run(t *testing.T, script []call) {
	t.Helper()
	for _, c := range script {
		r.do(t, c)
		r.checkPairs(t, c.name)
	}
}

// thrownCall is a call with one of so many keys, seldom a wrong one.
func thrownCall(d *dice, keys int) call {
	key := strings.Repeat("k", d.below(3)) + strconv.Itoa(d.below(keys))
	value := d.text(d.below(12), 256)
	switch d.below(40) {
	case 0:
		key = ""
	case 1:
		key = strings.Repeat("x", 17)
	case 2:
		value = strings.Repeat("v", 65)
	case 3:
		key, value = strings.Repeat("m", 16), strings.Repeat("w", 64)
	}
	o := fewOptions()[d.below(5)]
	name := []string{"Put", "Put", "Put", "Put", "Put", "Put", "Del", "Del", "Del", "Sync", "Flush", "Start"}[d.below(12)]
	return call{name, key, value, o}
}

// thrownScript is n such calls.
func thrownScript(d *dice, n int, keys int) []call {
	var script []call
	for range n {
		script = append(script, thrownCall(d, keys))
	}
	return script
}

// without is a script without the calls of a name.
func without(script []call, name string) []call {
	return slices.DeleteFunc(slices.Clone(script), func(c call) bool { return c.name == name })
}

// numbered is a key with a number of two digits.
func numbered(n int) string { return string([]byte{'n', '0' + byte(n/10), '0' + byte(n%10)}) }
