package den_test

import (
	"math"
	"reflect"
	"strings"
	"testing"

	"weirgate/api"
	"weirgate/den"
)

const low, high = math.MinInt, math.MaxInt

func node(kind int, text string, n int, from ...int) api.Node {
	return api.Node{Kind: kind, From: from, Text: text, N: n}
}

func rec(key string, num, time int) api.Record {
	return api.Record{Key: key, Num: num, Time: time}
}

// wantApply holds what is handed on, and the state then, of a node that had
// that state.
func wantApply(t *testing.T, n api.Node, state api.Held, r api.Record, input int, want []api.Record, then api.Held) {
	t.Helper()
	out, held, has := den.Apply(n, state, true, r, input)
	if !same(out, want) || held != then || !has {
		t.Errorf("Apply(%v, %v, true, %v, %d) is %v, %v, %v, want %v, %v, true", n, state, r, input, out, held, has, want, then)
	}
}

// wantFirst holds what is handed on, and the state then, of a node that had no
// state: whatever else stands where one would be handed in.
func wantFirst(t *testing.T, n api.Node, r api.Record, input int, want []api.Record, then api.Held, kept bool) {
	t.Helper()
	for _, none := range []api.Held{{}, {Node: 3, Key: "other", A: 77, B: 88}} {
		out, held, has := den.Apply(n, none, false, r, input)
		if !same(out, want) || held != then || has != kept {
			t.Errorf("Apply(%v, %v, false, %v, %d) is %v, %v, %v, want %v, %v, %v", n, none, r, input, out, held, has, want, then, kept)
		}
	}
}

// wantTurned holds a node that has no states against what it hands on: a state
// that is there stays, and else there is none.
func wantTurned(t *testing.T, n api.Node, r api.Record, input int, want ...api.Record) {
	t.Helper()
	wantFirst(t, n, r, input, want, api.Held{}, false)
	wantApply(t, n, api.Held{Node: 3, Key: "other", A: 5, B: 6}, r, input, want, api.Held{Key: r.Key, A: 5, B: 6})
}

// same holds records against others; none are nil and an empty list alike.
func same(a, b []api.Record) bool {
	return len(a) == 0 && len(b) == 0 || reflect.DeepEqual(a, b)
}

// D1, nodes without states

func TestApplyMap(t *testing.T) {
	for _, c := range []struct {
		text      string
		num, want int
	}{
		{"n*2", 5, 10}, {"n*2", -5, -10}, {"n*2", high, -2}, {"7", 5, 7}, {"n", low, low}, {"-n", low, low}, {"n/0", 5, 0},
		{"s", 5, 0}, {"n+s", 5, 5}, {"s?1:2", 5, 2},
	} {
		wantTurned(t, node(api.Map, c.text, 0, 0), rec("a", c.num, 9), 0, rec("a", c.want, 9))
	}
}

func TestApplyFilter(t *testing.T) {
	for _, c := range []struct {
		text string
		num  int
		ok   bool
	}{
		{"n", 0, false}, {"n", 1, true}, {"n", -1, true}, {"n", 2, true}, {"n", 256, true}, {"n", 1 << 32, true}, {"n", low, true},
		{"n>3", 3, false}, {"n>3", 4, true}, {"0", 5, false}, {"8", 0, true}, {"s", 5, false}, {"s=0", 5, true},
	} {
		r, n := rec("a", c.num, 9), node(api.Filter, c.text, 0, 0)
		if c.ok {
			wantTurned(t, n, r, 0, r)
		} else {
			wantTurned(t, n, r, 0)
		}
	}
}

func TestApplySub(t *testing.T) {
	for _, c := range []struct {
		key, text string
		num       int
		want      string
	}{
		{"a", "n%3", 5, "a/2"}, {"a", "n", 0, "a/0"}, {"a", "n", 120, "a/120"}, {"a", "n", -7, "a/-7"}, {"a", "n%3", -5, "a/-2"},
		{"", "n", 5, "/5"}, {"a/1", "n", 2, "a/1/2"}, {"a", "s", 5, "a/0"}, {"a\x00\xff", "1", 5, "a\x00\xff/1"},
		{"a", "n", high, "a/9223372036854775807"}, {"a", "n", low, "a/-9223372036854775808"},
	} {
		wantTurned(t, node(api.Sub, c.text, 0, 0), rec(c.key, c.num, 9), 0, rec(c.want, c.num, 9))
	}
}

func TestApplyCopy(t *testing.T) {
	r := rec("a", -5, 9)
	for _, want := range [][]api.Record{{}, {r}, {r, r}, {r, r, r}} {
		wantTurned(t, node(api.Copy, "", len(want), 0), r, 0, want...)
	}
	if api.MaxCopy != 3 {
		t.Errorf("MaxCopy is %d", api.MaxCopy)
	}
}

func TestApplyUnion(t *testing.T) {
	n := node(api.Union, "", 0, 4, 4, 2, 7)
	for input, want := range []string{"0:a", "1:a", "2:a", "3:a"} {
		wantTurned(t, n, rec("a", -5, 9), input, rec(want, -5, 9))
	}
	wantTurned(t, n, rec("", 5, 0), 1, rec("1:", 5, 0))
	wantTurned(t, n, rec("1:a", 5, 0), 1, rec("1:1:a", 5, 0))
}

func TestApplySourceAndSink(t *testing.T) {
	for _, n := range []api.Node{node(api.Source, "", 8), node(api.Sink, "", 0, 3)} {
		for _, r := range []api.Record{rec("a", 5, 9), rec("", low, 0), rec("a/1", high, api.MaxTime), {}} {
			wantTurned(t, n, r, 0, r)
		}
	}
}

// D1, nodes with states

func TestApplyFold(t *testing.T) {
	n := node(api.Fold, "s*10+n", 0, 0)
	wantFirst(t, n, rec("a", 4, 9), 0, []api.Record{rec("a", 4, 9)}, api.Held{Key: "a", A: 4}, true)
	wantFirst(t, n, rec("", 0, 0), 0, []api.Record{rec("", 0, 0)}, api.Held{}, true)
	wantApply(t, n, api.Held{Key: "a", A: 4}, rec("a", 7, 8), 0, []api.Record{rec("a", 47, 8)}, api.Held{Key: "a", A: 47})
	wantApply(t, n, api.Held{Key: "a", A: -4}, rec("a", 7, 8), 0, []api.Record{rec("a", -33, 8)}, api.Held{Key: "a", A: -33})
	wantApply(t, n, api.Held{}, rec("a", 7, 8), 0, []api.Record{rec("a", 7, 8)}, api.Held{Key: "a", A: 7})
	sum := node(api.Fold, "s+n", 0, 0)
	wantApply(t, sum, api.Held{A: high}, rec("a", 1, 0), 0, []api.Record{rec("a", low, 0)}, api.Held{Key: "a", A: low})
	zero := node(api.Fold, "0", 0, 0)
	wantApply(t, zero, api.Held{A: 3}, rec("a", 1, 0), 0, []api.Record{rec("a", 0, 0)}, api.Held{Key: "a"})
}

func TestApplyEvery(t *testing.T) {
	n := node(api.Every, "", 3, 0)
	wantFirst(t, n, rec("a", 5, 1), 0, nil, api.Held{Key: "a", A: 1, B: 5}, true)
	wantApply(t, n, api.Held{Key: "a", A: 1, B: 5}, rec("a", -9, 2), 0, nil, api.Held{Key: "a", A: 2, B: -4})
	wantApply(t, n, api.Held{Key: "a", A: 2, B: -4}, rec("a", 1, 3), 0, []api.Record{rec("a", -3, 3)}, api.Held{Key: "a"})
	// behind that the state is there, and counts from its beginning
	wantApply(t, n, api.Held{Key: "a"}, rec("a", 6, 4), 0, nil, api.Held{Key: "a", A: 1, B: 6})
	wantApply(t, n, api.Held{A: -2, B: 6}, rec("a", 1, 4), 0, nil, api.Held{Key: "a", A: -1, B: 7})
	for _, above := range []int{3, 4, 1000, high} {
		wantApply(t, n, api.Held{A: above, B: 10}, rec("a", 1, 4), 0, []api.Record{rec("a", 11, 4)}, api.Held{Key: "a"})
	}
	wantApply(t, n, api.Held{A: 1, B: high}, rec("a", 1, 4), 0, nil, api.Held{Key: "a", A: 2, B: low})
	wantApply(t, n, api.Held{A: 2, B: high}, rec("a", high, 4), 0, []api.Record{rec("a", -2, 4)}, api.Held{Key: "a"})
	wantApply(t, n, api.Held{A: 2, B: low}, rec("a", -1, 4), 0, []api.Record{rec("a", high, 4)}, api.Held{Key: "a"})
}

func TestApplyEveryOfOneAndMost(t *testing.T) {
	one := node(api.Every, "", 1, 0)
	wantFirst(t, one, rec("a", 5, 1), 0, []api.Record{rec("a", 5, 1)}, api.Held{Key: "a"}, true)
	wantApply(t, one, api.Held{Key: "a"}, rec("a", -6, 1), 0, []api.Record{rec("a", -6, 1)}, api.Held{Key: "a"})
	wantApply(t, one, api.Held{B: 4}, rec("a", 5, 1), 0, []api.Record{rec("a", 9, 1)}, api.Held{Key: "a"})
	most := node(api.Every, "", api.MaxItems, 0)
	wantApply(t, most, api.Held{A: 398, B: 4}, rec("a", 5, 1), 0, nil, api.Held{Key: "a", A: 399, B: 9})
	wantApply(t, most, api.Held{A: 399, B: 4}, rec("a", 5, 1), 0, []api.Record{rec("a", 9, 1)}, api.Held{Key: "a"})
}

func TestApplyFirst(t *testing.T) {
	n := node(api.First, "", 0, 0)
	for _, r := range []api.Record{rec("a", 5, 9), rec("", 0, 0), rec("a", low, api.MaxTime)} {
		wantFirst(t, n, r, 0, []api.Record{r}, api.Held{Key: r.Key, A: 1}, true)
		for _, a := range []int{low, -1, 0, 1, 2, high} {
			wantApply(t, n, api.Held{A: a}, r, 0, nil, api.Held{Key: r.Key, A: 1})
		}
	}
}

// A state is the record's, whosever it was.
func TestApplyStateIsOfTheKey(t *testing.T) {
	state := api.Held{Node: 7, Key: "other", A: 3, B: 4}
	for n, want := range map[int]api.Held{
		api.Fold:  {Key: "a", A: 8, B: 4},
		api.Every: {Key: "a", A: 4, B: 9},
		api.First: {Key: "a", A: 1, B: 4},
		api.Map:   {Key: "a", A: 3, B: 4},
		api.Sub:   {Key: "a", A: 3, B: 4}, // not that of what it hands on
		api.Union: {Key: "a", A: 3, B: 4},
	} {
		one := node(n, "s+n", 0, 0)
		if n == api.Every {
			one = node(n, "", 9, 0)
		}
		if _, held, has := den.Apply(one, state, true, rec("a", 5, 0), 0); held != want || !has {
			t.Errorf("kind %d has %v, %v, want %v", n, held, has, want)
		}
	}
}

// Nodes of a kind have states just if they come to have one of a record.
func TestHasState(t *testing.T) {
	for kind := -2; kind <= 13; kind++ {
		_, _, has := den.Apply(node(kind, "n", 1, 0), api.Held{}, false, rec("a", 5, 0), 0)
		if den.HasState(kind) != has {
			t.Errorf("HasState(%d) is %t, want %t", kind, !has, has)
		}
	}
	for _, kind := range []int{api.Fold, api.Every, api.First} {
		if !den.HasState(kind) {
			t.Errorf("HasState(%d) is false", kind)
		}
	}
}

// D1, keys that are too long

func TestApplyLongestKey(t *testing.T) {
	key := strings.Repeat("k", api.MaxKey)
	sub := node(api.Sub, "n", 0, 0)
	for _, c := range []struct {
		num    int
		behind string
	}{
		{5, "/5"}, {12, "/12"}, {-1, "/-1"}, {low, "/-9223372036854775808"},
	} {
		most := key[len(c.behind):]
		wantTurned(t, sub, rec(most, c.num, 9), 0, rec(most+c.behind, c.num, 9))
		wantTurned(t, sub, rec(most+"k", c.num, 9), 0)
	}
	union := node(api.Union, "", 0, 0, 1)
	wantTurned(t, union, rec(key[:38], 5, 9), 1, rec("1:"+key[:38], 5, 9))
	wantTurned(t, union, rec(key[:39], 5, 9), 1)
	for _, kind := range []int{api.Source, api.Sink} {
		wantTurned(t, node(kind, "", 1), rec(key, 5, 9), 0, rec(key, 5, 9))
	}
}

// A key that came too long stays so with every kind; what a node keeps of it
// does not hang on whether it hands on.
func TestApplyTooLongKeyComesIn(t *testing.T) {
	r := rec(strings.Repeat("k", api.MaxKey+1), 5, 9)
	for _, n := range []api.Node{
		node(api.Source, "", 1), node(api.Map, "n", 0, 0), node(api.Filter, "1", 0, 0), node(api.Sub, "n", 0, 0),
		node(api.Copy, "", 3, 0), node(api.Union, "", 0, 0), node(api.Sink, "", 0, 0),
	} {
		wantTurned(t, n, r, 0)
	}
	wantFirst(t, node(api.Fold, "n", 0, 0), r, 0, nil, api.Held{Key: r.Key, A: 5}, true)
	wantFirst(t, node(api.Every, "", 1, 0), r, 0, nil, api.Held{Key: r.Key}, true)
	wantFirst(t, node(api.First, "", 0, 0), r, 0, nil, api.Held{Key: r.Key, A: 1}, true)
}

// P1, P2

func TestApplyOfWrongNodes(t *testing.T) {
	for kind := -2; kind <= 13; kind++ {
		for _, text := range []string{"", "n+", "\xff", strings.Repeat("-", 121), "n"} {
			for _, number := range []int{low, -1, 0, 7, high} {
				for _, input := range []int{low, -1, 12, high} {
					n := api.Node{Kind: kind, Text: text, N: number}
					out, held, has := den.Apply(n, api.Held{Node: 5, A: low, B: high}, true, rec("a", high, -4), input)
					if !has || held.Key != "a" || held.Node != 0 {
						t.Errorf("Apply(%v) has the state %v, %v", n, held, has)
					}
					for _, r := range out {
						if len(r.Key) > api.MaxKey || r.Time != -4 {
							t.Errorf("Apply(%v) hands on %v", n, r)
						}
					}
				}
			}
		}
	}
}

func TestApplyLeavesWhatIsHandedIn(t *testing.T) {
	from := []int{4, 4, 2, 7, 99, 99}
	n := api.Node{Kind: api.Union, From: from[:4]}
	first, _, _ := den.Apply(n, api.Held{}, false, rec("a", 1, 2), 3)
	if !reflect.DeepEqual(from, []int{4, 4, 2, 7, 99, 99}) {
		t.Errorf("From became %v", from)
	}
	second, _, _ := den.Apply(n, api.Held{}, false, rec("a", 1, 2), 3)
	first[0].Key = "spoiled"
	if second[0].Key != "3:a" {
		t.Errorf("what was handed on became %v", second)
	}
}
