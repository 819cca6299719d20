package job_test

import (
	"fmt"
	"math"
	"reflect"
	"strings"
	"testing"

	"weirgate/api"
	"weirgate/job"
	"weirgate/plain"
)

func node(kind int, text string, n int, from ...int) api.Node {
	return api.Node{Kind: kind, From: from, Text: text, N: n}
}

func source(n int) api.Node { return node(api.Source, "", n) }

func sink(from int) api.Node { return node(api.Sink, "", 0, from) }

// behindSource is a job of which node 1 is what is asked about; with nothing
// wrong there it is right.
func behindSource(one api.Node) []api.Node { return []api.Node{source(1), one, sink(0)} }

// wantFault holds all calls that take a job against one error, with nothing
// beside it.
func wantFault(t *testing.T, l []api.Node, want api.Errno) {
	t.Helper()
	if err := job.Check(l); plain.Told(err) != want {
		t.Errorf("Check(%v) is %v, want %v", l, err, want)
	}
	if text, err := job.Print(l); text != "" || plain.Told(err) != want {
		t.Errorf("Print(%v) is %q, %v, want nothing, %v", l, text, err, want)
	}
	if uses, err := job.Uses(l); len(uses) != 0 || plain.Told(err) != want {
		t.Errorf("Uses(%v) is %v, %v, want nothing, %v", l, uses, err, want)
	}
	if numbers, err := job.Sources(l); len(numbers) != 0 || plain.Told(err) != want {
		t.Errorf("Sources(%v) is %v, %v, want nothing, %v", l, numbers, err, want)
	}
	if numbers, err := job.Sinks(l); len(numbers) != 0 || plain.Told(err) != want {
		t.Errorf("Sinks(%v) is %v, %v, want nothing, %v", l, numbers, err, want)
	}
}

func wantRight(t *testing.T, l []api.Node) {
	t.Helper()
	if err := job.Check(l); err != nil {
		t.Errorf("Check(%v) is %v, want nil", l, err)
	}
}

// everyKind is a job with one of each kind.
func everyKind() []api.Node {
	return []api.Node{
		source(3),
		node(api.Map, "n*2", 0, 0),
		node(api.Filter, "n>3", 0, 1),
		node(api.Sub, "n%10", 0, 0),
		node(api.Copy, "", 2, 3),
		node(api.Union, "", 0, 2, 4),
		node(api.Fold, "s+n", 0, 5),
		node(api.Every, "", 7, 5),
		node(api.First, "", 0, 6),
		sink(8),
	}
}

// sourcesAndSink is a job of so many nodes.
func sourcesAndSink(many int) []api.Node {
	var l []api.Node
	for range many - 1 {
		l = append(l, source(1))
	}
	return append(l, sink(0))
}

// J1

func TestCheckRight(t *testing.T) {
	wantRight(t, []api.Node{source(1), sink(0)})
	wantRight(t, []api.Node{source(1), source(2), sink(1), sink(0), sink(1)})
	wantRight(t, []api.Node{source(1), sink(0), node(api.First, "", 0, 0)})
	wantRight(t, []api.Node{source(1), sink(0), source(8)})
	wantRight(t, everyKind())
	wantRight(t, sourcesAndSink(api.MaxNodes))
	wantRight(t, []api.Node{{Kind: api.Source, From: []int{}, N: 1}, sink(0)})
}

func TestCheckTooManyNodes(t *testing.T) {
	wantFault(t, sourcesAndSink(api.MaxNodes+1), api.ErrFull)
	wantFault(t, sourcesAndSink(1000), api.ErrFull)
	wantFault(t, make([]api.Node, api.MaxNodes+1), api.ErrFull)
	wantFault(t, make([]api.Node, api.MaxNodes), api.ErrRange)
}

func TestCheckKind(t *testing.T) {
	for _, kind := range []int{math.MinInt, -1, 0, 11, 12, math.MaxInt} {
		wantFault(t, behindSource(node(kind, "", 0, 0)), api.ErrRange)
		wantFault(t, []api.Node{node(kind, "", 1), sink(0)}, api.ErrRange)
	}
	wantRight(t, behindSource(source(1)))
	wantRight(t, behindSource(sink(0)))
}

func TestCheckHowManyFrom(t *testing.T) {
	wantFault(t, behindSource(node(api.Source, "", 1, 0)), api.ErrShape)
	wantFault(t, []api.Node{node(api.Source, "", 1, 0), sink(0)}, api.ErrShape)
	wantFault(t, behindSource(node(api.Union, "", 0)), api.ErrShape)
	wantRight(t, behindSource(node(api.Union, "", 0, 0)))
	wantRight(t, behindSource(node(api.Union, "", 0, 0, 0, 0, 0)))
	wantFault(t, behindSource(node(api.Union, "", 0, 0, 0, 0, 0, 0)), api.ErrShape)
	wantFault(t, behindSource(node(api.Union, "", 0, make([]int, 1000)...)), api.ErrShape)
	for _, right := range everyKind() {
		if right.Kind == api.Source || right.Kind == api.Union {
			continue
		}
		wantRight(t, behindSource(node(right.Kind, right.Text, right.N, 0)))
		wantFault(t, behindSource(node(right.Kind, right.Text, right.N)), api.ErrShape)
		wantFault(t, behindSource(node(right.Kind, right.Text, right.N, 0, 0)), api.ErrShape)
	}
}

func TestCheckNumbersOfFrom(t *testing.T) {
	for _, from := range []int{math.MinInt, -1, 2, 3, 4, math.MaxInt} {
		l := []api.Node{source(1), source(1), node(api.First, "", 0, from), source(1), sink(0)}
		wantFault(t, l, api.ErrRange)
	}
	for _, from := range []int{0, 1} {
		wantRight(t, []api.Node{source(1), source(1), node(api.First, "", 0, from), source(1), sink(0)})
	}
	wantFault(t, []api.Node{sink(0)}, api.ErrRange)
	wantFault(t, behindSource(node(api.Union, "", 0, 0, 0, 0, 1)), api.ErrRange)
	wantFault(t, behindSource(node(api.Union, "", 0, 0, -1, 0)), api.ErrRange)
}

func TestCheckFromOfSink(t *testing.T) {
	wantFault(t, []api.Node{source(1), sink(0), node(api.First, "", 0, 1)}, api.ErrState)
	wantFault(t, []api.Node{source(1), sink(0), sink(1)}, api.ErrState)
	wantFault(t, []api.Node{source(1), sink(0), node(api.Union, "", 0, 0, 0, 0, 1)}, api.ErrState)
}

func TestCheckTextAndNOfOtherKinds(t *testing.T) {
	withText := " 2 3 4 7 "
	withN := " 1 5 8 "
	for _, right := range everyKind() {
		var from []int
		if right.Kind != api.Source {
			from = []int{0}
		}
		kind := fmt.Sprintf(" %d ", right.Kind)
		if !strings.Contains(withText, kind) {
			wantFault(t, behindSource(node(right.Kind, "n", right.N, from...)), api.ErrShape)
			wantFault(t, behindSource(node(right.Kind, "\n", right.N, from...)), api.ErrShape)
		}
		if !strings.Contains(withN, kind) {
			for _, n := range []int{math.MinInt, -1, 1, math.MaxInt} {
				wantFault(t, behindSource(node(right.Kind, right.Text, n, from...)), api.ErrShape)
			}
		}
	}
}

func TestCheckN(t *testing.T) {
	for _, c := range []struct{ kind, low, high int }{
		{api.Source, 1, 8},
		{api.Copy, 0, 3},
		{api.Every, 1, 400},
	} {
		var from []int
		if c.kind != api.Source {
			from = []int{0}
		}
		wantRight(t, behindSource(node(c.kind, "", c.low, from...)))
		wantRight(t, behindSource(node(c.kind, "", c.high, from...)))
		for _, n := range []int{math.MinInt, c.low - 1, c.high + 1, math.MaxInt} {
			wantFault(t, behindSource(node(c.kind, "", n, from...)), api.ErrRange)
		}
	}
}

func TestCheckText(t *testing.T) {
	longest := "n" + strings.Repeat("+n", 59) + "+"
	deepest := strings.Repeat("-", api.MaxDeep)
	for _, kind := range []int{api.Map, api.Filter, api.Sub, api.Fold} {
		for _, right := range []string{"0", "n", "s", longest[:119], "-" + longest[:119], deepest + "n"} {
			wantRight(t, behindSource(node(kind, right, 0, 0)))
		}
		for _, wrong := range []string{"", "n+", "n n", " n", "n ", "n\n", "01", "x", "\x00", "é", longest} {
			wantFault(t, behindSource(node(kind, wrong, 0, 0)), api.ErrSyntax)
		}
		for _, full := range []string{longest + "n", longest + "x", deepest + "-n"} {
			wantFault(t, behindSource(node(kind, full, 0, 0)), api.ErrFull)
		}
	}
}

func TestCheckNoSourceOrSink(t *testing.T) {
	wantFault(t, nil, api.ErrNone)
	wantFault(t, []api.Node{}, api.ErrNone)
	wantFault(t, []api.Node{source(1)}, api.ErrNone)
	wantFault(t, []api.Node{source(1), node(api.First, "", 0, 0)}, api.ErrNone)
	wantFault(t, everyKind()[:9], api.ErrNone)
	wantFault(t, sourcesAndSink(api.MaxNodes + 1)[:api.MaxNodes], api.ErrNone)
}

func TestCheckFirstNamedFault(t *testing.T) {
	behindSink := func(one api.Node) []api.Node { return []api.Node{source(1), sink(0), one} }
	for _, c := range []struct {
		one  api.Node
		want api.Errno
	}{
		{node(0, "n", 9, 1, 5), api.ErrRange},                  // Kind, ahead of all else
		{node(api.Source, "n", 9, 5), api.ErrShape},            // how many, ahead of From
		{node(api.Union, "n", 9, 5, 1, 1, 1, 1), api.ErrShape}, // how many, ahead of From
		{node(api.Sink, "n", 9, 1, 5), api.ErrShape},           // how many, ahead of a Sink's
		{node(api.First, "n", 9, 2), api.ErrRange},             // From, ahead of Text
		{node(api.First, "n", 9, 1), api.ErrState},             // a Sink's, ahead of Text
		{node(api.Union, "", 1, 0, 1), api.ErrState},           // a Sink's, ahead of N
		{node(api.Source, "n", 9), api.ErrShape},               // Text, ahead of N out of its bounds
		{node(api.Copy, "n", -1, 0), api.ErrShape},             // Text, ahead of N out of its bounds
		{node(api.Map, "n+", 1, 0), api.ErrShape},              // N, ahead of Text's Check
		{node(api.Every, "", 0, 1), api.ErrState},              // a Sink's, ahead of N out of its bounds
		{node(api.Map, "n+", 0, 2), api.ErrRange},              // From, ahead of Text's Check
		{node(api.Map, "n+", 0, 1), api.ErrState},              // a Sink's, ahead of Text's Check
		{node(api.Union, "", 0, 5, 1), api.ErrRange},           // the first number of From
		{node(api.Union, "", 0, 1, 5), api.ErrState},           // the first number of From
	} {
		wantFault(t, behindSink(c.one), c.want)
	}
}

func TestCheckFirstWrongNode(t *testing.T) {
	shape := node(api.Source, "", 1, 0)
	kind := node(0, "", 0)
	text := node(api.Map, "x", 0, 0)
	wantFault(t, []api.Node{source(1), text, shape, kind}, api.ErrSyntax)
	wantFault(t, []api.Node{source(1), shape, kind, text}, api.ErrShape)
	wantFault(t, []api.Node{source(1), kind, text, shape}, api.ErrRange)
	wantFault(t, []api.Node{source(1), source(9), sink(1)}, api.ErrRange)
	// ErrNone comes behind what is wrong with the last node
	wantFault(t, []api.Node{source(1), text}, api.ErrSyntax)
}

// J2

func TestUses(t *testing.T) {
	for _, c := range []struct {
		l    []api.Node
		want string
	}{
		{[]api.Node{source(1), sink(0)}, "[[1] []]"},
		{[]api.Node{source(1), sink(0), sink(0), sink(0)}, "[[1 2 3] [] [] []]"},
		{[]api.Node{source(1), node(api.Union, "", 0, 0, 0, 0, 0), sink(1)}, "[[1] [2] []]"},
		{[]api.Node{source(1), source(1), node(api.Union, "", 0, 1, 0, 1, 0), node(api.Union, "", 0, 0, 2, 0), sink(0)}, "[[2 3 4] [2] [3] [] []]"},
		{everyKind(), "[[1 3] [2] [5] [4] [5] [6 7] [8] [] [9] []]"},
	} {
		if got, err := job.Uses(c.l); fmt.Sprint(got) != c.want || err != nil {
			t.Errorf("Uses(%v) is %v, %v, want %v", c.l, got, err, c.want)
		}
	}
}

func TestSourcesAndSinks(t *testing.T) {
	for _, c := range []struct {
		l             []api.Node
		sources, ends string
	}{
		{[]api.Node{source(1), sink(0)}, "[0]", "[1]"},
		{[]api.Node{source(1), sink(0), source(2), sink(2), sink(0)}, "[0 2]", "[1 3 4]"},
		{everyKind(), "[0]", "[9]"},
		{sourcesAndSink(12), "[0 1 2 3 4 5 6 7 8 9 10]", "[11]"},
	} {
		if got, err := job.Sources(c.l); fmt.Sprint(got) != c.sources || err != nil {
			t.Errorf("Sources(%v) is %v, %v, want %v", c.l, got, err, c.sources)
		}
		if got, err := job.Sinks(c.l); fmt.Sprint(got) != c.ends || err != nil {
			t.Errorf("Sinks(%v) is %v, %v, want %v", c.l, got, err, c.ends)
		}
	}
}

// P2

func TestArgumentsStay(t *testing.T) {
	l, same := everyKind(), everyKind()
	job.Check(l)
	job.Print(l)
	job.Uses(l)
	job.Sources(l)
	job.Sinks(l)
	if !reflect.DeepEqual(l, same) {
		t.Errorf("the job became %v, want %v", l, same)
	}
}

// spoil overwrites a list, and what it has room for behind its end.
func spoil(l []int) {
	l = l[:cap(l)]
	for i := range l {
		l[i] = -7
	}
}

func TestAnswersShareNothing(t *testing.T) {
	l := []api.Node{source(1), sink(0), node(api.Union, "", 0, 0, 0), sink(0), sink(2), sink(2)}
	uses, _ := job.Uses(l)
	spoil(uses[0])
	if fmt.Sprint(uses[2]) != "[4 5]" {
		t.Errorf("the uses of 2 became %v", uses[2])
	}
	text := "source 1\nunion 0 0\nunion 1 0 1\nsink 0\n"
	read, _, _ := job.Parse(text)
	spoil(read[1].From)
	spoil(read[3].From)
	if fmt.Sprint(read[2].From) != "[1 0 1]" {
		t.Errorf("From became %v", read[2].From)
	}
	numbers, _ := job.Sources(l)
	spoil(numbers)
	if again, _ := job.Sources(l); fmt.Sprint(again) != "[0]" {
		t.Errorf("the sources became %v", again)
	}
}
