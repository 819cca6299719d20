package window_test

import (
	"testing"

	"weirgate/api"
)

// W2, Marks

func TestMarksWithoutRecords(t *testing.T) {
	for _, slack := range []int{0, 1, most} {
		wantMarks(t, nil, slack, "[]")
		wantMarks(t, [][]api.Record{}, slack, "[]")
		wantMarks(t, [][]api.Record{nil}, slack, "[]")
		wantMarks(t, [][]api.Record{nil, {}, nil, nil}, slack, "[]")
	}
}

func TestMarksOfOneInput(t *testing.T) {
	l := [][]api.Record{at(5, 3, 9, 0, most, 7)}
	wantMarks(t, l, 0, "[5 5 9 9 1000000 1000000]")
	wantMarks(t, l, 1, "[4 4 8 8 999999 999999]")
	wantMarks(t, l, 6, "[0 0 3 3 999994 999994]")
	wantMarks(t, l, most, "[0 0 0 0 0 0]")
	wantMarks(t, l, most-1, "[0 0 0 0 1 1]")
	wantMarks(t, [][]api.Record{at(0)}, 0, "[0]")
}

// In turn one of each that has more; of one of which none came yet it is 0.
func TestMarksInTurn(t *testing.T) {
	wantMarks(t, [][]api.Record{at(5, 6), at(3, 9)}, 0, "[0 3 3 6]")
	wantMarks(t, [][]api.Record{at(3, 9), at(5, 6)}, 0, "[0 3 5 6]")
	wantMarks(t, [][]api.Record{at(10, 20, 30), at(11), at(12, 13)}, 0, "[0 0 10 11 11 11]")
	wantMarks(t, [][]api.Record{at(12), at(10, 20, 30), at(11, 99)}, 0, "[0 0 10 11 12 12]")
	wantMarks(t, [][]api.Record{at(1), at(2), at(3), at(4)}, 0, "[0 0 0 1]")
	wantMarks(t, [][]api.Record{at(4, 8), at(3, 7), at(2, 6), at(1, 5)}, 0, "[0 0 0 1 1 1 1 5]")
	wantMarks(t, [][]api.Record{at(4, 8), at(3, 7), at(2, 6), at(1, 5)}, 2, "[0 0 0 0 0 0 0 3]")
}

// An input that has no more holds its mark, and so the least one.
func TestMarksOfDifferentLengths(t *testing.T) {
	wantMarks(t, [][]api.Record{at(7), at(8, 9, 10, 11)}, 0, "[0 7 7 7 7]")
	wantMarks(t, [][]api.Record{at(8, 9, 10, 11), at(7)}, 0, "[0 7 7 7 7]")
	wantMarks(t, [][]api.Record{at(1, 2, 3, 4), at(99)}, 0, "[0 1 2 3 4]")
	wantMarks(t, [][]api.Record{at(1, 2, 3, 4), at(99), at(98, 3)}, 0, "[0 0 1 2 2 3 4]")
	wantMarks(t, [][]api.Record{at(50, 4, 60), at(40, 70)}, 3, "[0 37 37 47 57]")
}

// An input without a record does not hold the others.
func TestMarksWithInputsWithoutRecords(t *testing.T) {
	wantMarks(t, [][]api.Record{nil, at(5, 6)}, 0, "[5 6]")
	wantMarks(t, [][]api.Record{at(5, 6), {}}, 0, "[5 6]")
	wantMarks(t, [][]api.Record{nil, at(5, 6), {}, at(3, 9)}, 0, "[0 3 3 6]")
	wantMarks(t, [][]api.Record{at(5), nil, nil, at(3)}, 1, "[0 2]")
}

// Inputs may have the same list, and keys make no difference.
func TestMarksOfSameList(t *testing.T) {
	l := recs("c:-3:21 d:13:26 a:2:29 c:13:18 d:-5:6")
	wantMarks(t, [][]api.Record{l, l}, 1, "[0 20 20 25 25 28 28 28 28 28]")
	wantMarks(t, [][]api.Record{l, l[:2]}, 1, "[0 20 20 25 25 25 25]")
	wantMarks(t, [][]api.Record{l, l, l, l}, 0, "[0 0 0 21 21 21 21 26 26 26 26 29 29 29 29 29 29 29 29 29]")
}
