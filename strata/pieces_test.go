package strata_test

import (
	"slices"
	"strings"
	"testing"

	"strata/strata"
)

// P1 of numbers and of single texts is held by the other tests, which hand oddTexts to each call; here stand lists and memory.

func TestErrnoNumbers(t *testing.T) {
	for i, e := range []strata.Errno{strata.OK, strata.ErrLong, strata.ErrKey, strata.ErrValue, strata.ErrOrder, strata.ErrData, strata.ErrTable, strata.ErrNone, strata.ErrMany, strata.ErrFull} {
		if int(e) != i {
			t.Errorf("error %d has the number %d", i, int(e))
		}
	}
}

func TestPiecesTakeOddTexts(t *testing.T) {
	for _, text := range oddTexts() {
		if squeezed, e := strata.Squeeze(text); len(text) > 1024 && (squeezed != "" || e != strata.ErrLong) {
			t.Errorf("P3: Squeeze of %d bytes: %d bytes, error %d", len(text), len(squeezed), e)
		}
		if log, e, at := strata.Frame([]string{"", text}); len(text) > 128 && (log != "" || e != strata.ErrLong || at != 1) {
			t.Errorf("P4: Frame of %d bytes: %d bytes, error %d, place %d", len(text), len(log), e, at)
		}
	}
}

func TestFrameLeavesItsListAlone(t *testing.T) {
	wide := append(make([]string, 0, 8), "one", "", "three")
	for _, records := range [][]string{nil, {}, wide, mixedRecords(), make([]string, 65), {"a", strings.Repeat("r", 129)}} {
		before := slices.Clone(records[:cap(records)])
		first, e1, at1 := strata.Frame(records)
		second, e2, at2 := strata.Frame(records)
		if first != second || e1 != e2 || at1 != at2 {
			t.Errorf("P1: Frame of %d records answers two things", len(records))
		}
		if !slices.Equal(records[:cap(records)], before) {
			t.Errorf("P1: Frame changed a list of %d records", len(records))
		}
	}
}

func TestFrameKeepsNothingOfItsList(t *testing.T) {
	records := []string{"one", "two"}
	log := frame(t, records...)
	records[0] = "other"
	if back, _ := strata.Unframe(log); back[0] != "one" {
		t.Errorf("P1: a log changed with the list that it was made of: %q", back)
	}
}

func TestUnframeAnswersListsOfTheirOwn(t *testing.T) {
	log := frame(t, mixedRecords()...)
	first, _ := strata.Unframe(log)
	second, _ := strata.Unframe(log)
	clear(first[:cap(first)])
	if !slices.Equal(second, mixedRecords()) {
		t.Errorf("P1: two answers share a list: %q", second)
	}
}

func TestPiecesAnswerNewMemory(t *testing.T) {
	for _, data := range []string{"q", "some plain words", strings.Repeat("r", 128)} {
		text, _ := strata.Squeeze(data)
		back, _ := strata.Unsqueeze(text, 1024)
		log := frame(t, data)
		records, _ := strata.Unframe(log)
		if shares(text, data) || shares(back, text) || shares(log, data) || shares(records[0], log) {
			t.Errorf("P1: an answer shares memory with what was handed in, of %q", data)
		}
	}
}
