package strata

import (
	"slices"
	"strconv"
	"strings"
)

// The files of a store, all but the last one with a number:
//   - "log 5": the updates behind those of the lower logs, a framed record each;
//   - "table 5": a table of what the logs up to 5 say and no lower table does; it lies upon the lower ones;
//   - "whole 5": a table of all pairs behind log 5; it stands for every lower table, too;
//   - "new": a table that is being written.
//
// A table gets its name when its bytes stand for good. By the name alone it takes, at one stroke, the place of the files that it stands for: power may fail ahead of that stroke or behind it, but not within.
const (
	logKind   = "log "
	tableKind = "table "
	wholeKind = "whole "
	newName   = "new"
)

// layout tells the files of a store apart.
type layout struct {
	tables []string // each lies upon those ahead of it
	logs   []string // their updates are in no table yet; each goes on where those ahead of it end
	old    []string // others stand for them
	last   int      // no number is greater
}

// layOut tells files apart by their names.
func layOut(names []string) layout {
	wholes, tables, logs := numbers(names, wholeKind), numbers(names, tableKind), numbers(names, logKind)
	bottom := wholes[len(wholes)-1]
	top := max(bottom, tables[len(tables)-1])
	l := layout{last: max(top, logs[len(logs)-1])}
	l.tables = append(l.from(bottom, wholeKind, wholes), l.from(bottom+1, tableKind, tables)...)
	l.logs = l.from(top+1, logKind, logs)
	if slices.Contains(names, newName) {
		l.old = append(l.old, newName)
	}
	return l
}

// numbers are those of all files of a kind, rising, and a 0 ahead of them, which is no file's.
func numbers(names []string, kind string) []int {
	list := []int{0}
	for _, name := range names {
		n, _ := strconv.Atoi(strings.TrimPrefix(name, kind))
		if n > 0 && name == fileName(kind, n) {
			list = append(list, n)
		}
	}
	slices.Sort(list)
	return list
}

func fileName(kind string, n int) string { return kind + strconv.Itoa(n) }

// from answers the names of the files of a kind whose numbers are least or more; the lower ones are old.
func (l *layout) from(least int, kind string, numbers []int) []string {
	var names []string
	for _, n := range numbers[1:] {
		if n >= least {
			names = append(names, fileName(kind, n))
		} else {
			l.old = append(l.old, fileName(kind, n))
		}
	}
	return names
}
