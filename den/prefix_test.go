package den_test

import (
	"reflect"
	"testing"

	"weirgate/api"
	"weirgate/den"
)

func line(key string, nums ...int) api.Line { return api.Line{Key: key, Nums: nums} }

// D3

func TestPrefix(t *testing.T) {
	for _, c := range []struct {
		a, b []api.Line
		want bool
	}{
		{nil, nil, true},
		{nil, []api.Line{}, true},
		{nil, []api.Line{line("a", 1)}, true},
		{[]api.Line{line("a", 1)}, nil, false},
		{[]api.Line{line("a")}, nil, false},
		{[]api.Line{line("")}, nil, false},
		{[]api.Line{line("a", 1, 2)}, []api.Line{line("a", 1, 2)}, true},
		{[]api.Line{line("a", 1), line("b", 2)}, []api.Line{line("a", 1), line("b", 2)}, true},
		{[]api.Line{line("a", 1), line("b", 2)}, []api.Line{line("b", 2), line("a", 1)}, true},
		{[]api.Line{line("a", 1)}, []api.Line{line("a", 1, 2)}, true},
		{[]api.Line{line("a")}, []api.Line{line("a", 1, 2)}, true},
		{[]api.Line{line("a")}, []api.Line{line("a")}, true},
		{[]api.Line{line("a", 1, 2)}, []api.Line{line("a", 1)}, false},
		{[]api.Line{line("a", 1)}, []api.Line{line("a")}, false},
		{[]api.Line{line("a", 2)}, []api.Line{line("a", 1, 2)}, false},
		{[]api.Line{line("a", 1, 3)}, []api.Line{line("a", 1, 2, 3)}, false},
		{[]api.Line{line("a", 1, 2, 4)}, []api.Line{line("a", 1, 2, 3)}, false},
		{[]api.Line{line("a", -1)}, []api.Line{line("a", 1)}, false},
		// a key that b lacks, wherever it stands
		{[]api.Line{line("a", 1), line("b", 1)}, []api.Line{line("a", 1)}, false},
		{[]api.Line{line("b", 1), line("a", 1)}, []api.Line{line("a", 1)}, false},
		{[]api.Line{line("a", 1)}, []api.Line{line("A", 1), line("a ", 1), line("", 1), line("aa", 1)}, false},
		{[]api.Line{line("a", 1)}, []api.Line{line("a", 1), line("b", 1)}, true},
		// each line of a counts
		{[]api.Line{line("a", 1), line("b", 3)}, []api.Line{line("a", 1), line("b", 2)}, false},
		{[]api.Line{line("a", 3), line("b", 2)}, []api.Line{line("a", 1), line("b", 2)}, false},
		{[]api.Line{line("a", 1), line("a", 1, 2), line("a")}, []api.Line{line("a", 1, 2)}, true},
		{[]api.Line{line("a", 1), line("a", 2)}, []api.Line{line("a", 1, 2)}, false},
		{[]api.Line{line("a", 2), line("a", 1)}, []api.Line{line("a", 1, 2)}, false},
		// a key that b has more than once: the first such one counts
		{[]api.Line{line("a", 1)}, []api.Line{line("a", 1), line("a", 2)}, true},
		{[]api.Line{line("a", 2)}, []api.Line{line("a", 1), line("a", 2)}, false},
		{[]api.Line{line("a", 1, 2)}, []api.Line{line("b", 1, 2), line("a", 1), line("a", 1, 2)}, false},
		{[]api.Line{line("a", 1)}, []api.Line{line("a"), line("b"), line("a", 1)}, false},
		{[]api.Line{line("a", 1, 2), line("a", 1)}, []api.Line{line("a", 1, 2), line("a", 1), line("a")}, true},
		{[]api.Line{line("a", 1), line("a", 2)}, []api.Line{line("a", 1), line("a", 2)}, false},
	} {
		if got := den.Prefix(c.a, c.b); got != c.want {
			t.Errorf("Prefix(%v, %v) is %v", c.a, c.b, got)
		}
	}
}

// What lies behind a list's length is neither read nor written.
func TestPrefixBehindTheLength(t *testing.T) {
	whole := []int{1, 2, 3}
	if den.Prefix([]api.Line{line("a", 1, 2, 3)}, []api.Line{{Key: "a", Nums: whole[:2]}}) {
		t.Errorf("what lies behind the length was read")
	}
	lines := []api.Line{line("a", 1), line("b", 2)}
	if den.Prefix(lines, lines[:1]) {
		t.Errorf("a line behind the length was read")
	}
	if !den.Prefix(lines[:1], lines) || !reflect.DeepEqual(lines, []api.Line{line("a", 1), line("b", 2)}) {
		t.Errorf("the lines became %v", lines)
	}
}
