package audit_test

import (
	"testing"

	"weirgate/api"
)

// Q2, Less

func TestLess(t *testing.T) {
	for _, c := range []struct {
		want, got string
		less      int
	}{
		{"", "", 0},
		{"a=1", "a=1", 0},
		{"a=1,2,3 b=4", "a=1,2,3 b=4", 0},
		{"a=1", "", 1},
		{"a=1,2,3 b=4", "", 4},
		{"a=1,2,3 b=4", "a=1", 3},
		{"a=1,2,3 b=4", "a=1,2", 2},
		{"a=1,2,3 b=4", "a=1,2,3", 1},
		{"a=1,2,3 b=4", "b=4", 3},
		{"a=1,2,3 b=4", "a=1 b=4", 2},
		{"a=1,1,1,1", "a=1,1", 2},
		{"a=1 b=2,3 c=4,5,6", "b=2 c=4,5", 3},
		{"a=1 b=2,3 c=4,5,6", "c=4", 5},
		{"A=1 a=2", "A=1", 1},
	} {
		wantLess(t, lines(c.want), lines(c.got), c.less)
	}
	wantLess(t, []api.Line{line("", 1), line("a", 2)}, []api.Line{line("", 1)}, 1)
	wantLess(t, []api.Line{}, []api.Line{}, 0)
}

func TestLessOfMost(t *testing.T) {
	whole := rising(0, api.MaxItems)
	for i := range whole {
		whole[i].Nums = upTo(api.MaxItems)
	}
	wantLess(t, whole, nil, api.MaxItems*api.MaxItems)
	wantLess(t, whole, whole, 0)
	wantLess(t, whole, whole[:399], api.MaxItems)
	wantLess(t, whole, whole[1:2], 399*api.MaxItems)
	begun := cloned(whole)
	begun[17].Nums = begun[17].Nums[:1]
	wantLess(t, whole, begun, 399)
	wantNotLess(t, begun, whole, api.ErrState)
}

func TestNotTheBeginning(t *testing.T) {
	for _, c := range [][2]string{
		// a key that want has not
		{"", "a=1"},
		{"a=1", "b=1"},
		{"a=1", "a=1 b=1"},
		{"b=1", "a=1 b=1"},
		{"a=1", "A=1"},
		// a number that differs
		{"a=1", "a=2"},
		{"a=1,2,3", "a=2"},
		{"a=1,2,3", "a=1,3"},
		{"a=1,2,3", "a=1,2,9"},
		{"a=1,2 b=3", "a=1 b=4"},
		{"a=1,2 b=3", "a=9 b=3"},
		{"a=1,2", "a=2,1"},
		{"a=1,2 b=2,1", "a=2,1 b=1,2"},
		// a number more
		{"a=1", "a=1,1"},
		{"a=1,2", "a=1,2,3"},
		{"a=1 b=2,3", "a=1,1 b=2"},
		{"a=1,2,3 b=1", "a=1 b=1,1"},
		{"a=1,2,3 b=1", "b=1,2"},
	} {
		wantNotLess(t, lines(c[0]), lines(c[1]), api.ErrState)
	}
	wantNotLess(t, lines("a=1"), []api.Line{line("", 1)}, api.ErrState)
}
