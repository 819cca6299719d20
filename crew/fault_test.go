package crew_test

import (
	"strings"
	"testing"

	"weirgate/api"
)

// C1, what is wrong

func TestWrongJob(t *testing.T) {
	wrong := [][]api.Record{times(301, "a"), {rec("a", 0, -1)}}
	source, sink := node(api.Source, "", 1), node(api.Sink, "", 0, 0)
	for _, c := range []struct {
		l    []api.Node
		want api.Errno
	}{
		{make([]api.Node, 13), api.ErrFull},
		{[]api.Node{source, node(0, "", 0, 0), sink}, api.ErrRange},
		{[]api.Node{source, node(11, "", 0, 0), sink}, api.ErrRange},
		{[]api.Node{source, node(api.Map, "n", 0), sink}, api.ErrShape},
		{[]api.Node{source, node(api.Map, "n", 0, 1), sink}, api.ErrRange},
		{[]api.Node{source, node(api.Union, "", 0, 0, 0, 0, 0, 0), sink}, api.ErrShape},
		{[]api.Node{source, node(api.Union, "", 0, 0, -1), sink}, api.ErrRange},
		{[]api.Node{source, sink, node(api.Map, "n", 0, 1)}, api.ErrState},
		{[]api.Node{source, node(api.Copy, "", 4, 0), sink}, api.ErrRange},
		{[]api.Node{source, node(api.Every, "", 0, 0), sink}, api.ErrRange},
		{[]api.Node{source, node(api.Map, "n+", 0, 0), sink}, api.ErrSyntax},
		{[]api.Node{source, node(api.Map, "", 0, 0), sink}, api.ErrSyntax},
		{nil, api.ErrNone},
		{[]api.Node{source}, api.ErrNone},
	} {
		for _, data := range [][][]api.Record{nil, {nil}, {times(2, "a")}, wrong} {
			wantFault(t, c.l, data, c.want)
		}
	}
}

func TestTooFewAndTooManyLists(t *testing.T) {
	for _, c := range []struct {
		text    string
		sources int
	}{
		{"source 8\nsink 0\n", 1},
		{"source 1\nsource 1\nsink 1\nsource 1\n", 3},
		{strings.Repeat("source 1\n", 11) + "sink 0\n", 11},
	} {
		l := nodes(t, c.text)
		for many := range 14 {
			right, wrong := make([][]api.Record, many), make([][]api.Record, many)
			for i := range wrong {
				wrong[i] = times(301, "a")
			}
			if many == c.sources {
				wantRight(t, l, right)
				wantFault(t, l, wrong, api.ErrFull)
			} else {
				wantFault(t, l, right, api.ErrShape)
				wantFault(t, l, wrong, api.ErrShape)
			}
		}
	}
}

func TestWrongRecords(t *testing.T) {
	l := nodes(t, "source 1\nsource 1\nsink 0\n")
	for _, r := range []api.Record{rec("", 0, 0), rec(long(40), 0, 0), rec("a", 0, api.MaxTime), rec("a", least, 0), rec("a", greatest, 0)} {
		wantRight(t, l, [][]api.Record{{r}, {r}})
	}
	for _, r := range []api.Record{rec(long(41), 0, 0), rec(long(1000), 0, 0), rec("a", 0, -1), rec("a", 0, least), rec("a", 0, api.MaxTime+1), rec("a", 0, greatest)} {
		wantFault(t, l, [][]api.Record{{r}, nil}, api.ErrRange)
		wantFault(t, l, [][]api.Record{nil, {r}}, api.ErrRange)
		last := append(times(api.MaxData-1, "a"), r)
		wantFault(t, l, [][]api.Record{last, times(api.MaxData+1, "a")}, api.ErrRange)
		wantFault(t, l, [][]api.Record{times(api.MaxData+1, "a"), last}, api.ErrFull)
	}
}

func TestMostRecords(t *testing.T) {
	l := nodes(t, "source 1\nsource 1\nsink 0\nsink 1\n")
	most, more := times(api.MaxData, "a"), times(api.MaxData+1, "a")
	wantRight(t, l, [][]api.Record{most, most})
	wantFault(t, l, [][]api.Record{more, nil}, api.ErrFull)
	wantFault(t, l, [][]api.Record{nil, more}, api.ErrFull)
}

// Copies of copies are 9 of each, and all 2000 as 1998 and what a second list
// brings; a node counts what it hands on, however many get it, or none, and by
// all its workers together.
func TestMostFlow(t *testing.T) {
	for _, behind := range []string{"sink 4\n", "sink 0\n", "sink 4\nsink 4\nsink 4\n", "map 4 n\nmap 4 n\nunion 5\nsink 0\n"} {
		l := nodes(t, "source 1\nsource 1\ncopy 0 3\ncopy 2 3\nunion 3 1\n"+behind)
		for _, list := range [][]api.Record{times(api.MaxData, "a"), inTurn(api.MaxData)} {
			wantRight(t, l, [][]api.Record{list[:222], times(2, "b")})
			wantFault(t, l, [][]api.Record{list[:222], times(3, "b")}, api.ErrFull)
			wantFault(t, l, [][]api.Record{list[:222], times(300, "b")}, api.ErrFull)
			wantFault(t, l, [][]api.Record{list[:223], nil}, api.ErrFull)
			wantFault(t, l, [][]api.Record{list, times(301, "b")}, api.ErrFull)
			wantFault(t, l, [][]api.Record{list, {rec("b", 0, -1)}}, api.ErrRange) // ahead of the flow
		}
	}
}

// A node that got more than it hands on is right.
func TestFlowThatIsLetGo(t *testing.T) {
	l := nodes(t, "source 1\ncopy 0 3\ncopy 1 2\nunion 2 2 2 2\nsink 0\n")
	wantRight(t, l, [][]api.Record{times(300, long(39))})
	wantRight(t, l, [][]api.Record{append(times(217, long(39)), times(83, "a")...)})              // 4 times 6 times 83 are 1992
	wantFault(t, l, [][]api.Record{append(times(216, long(39)), times(84, "a")...)}, api.ErrFull) // of 84 they are 2016
	for _, workers := range someWorkers() {
		wantCount(t, l, [][]api.Record{times(300, long(39))}, workers, []int{300, 300, 900, 7200, 300})
	}
}

// Copies of copies of copies would be 300 times 3^10, and Unions of Unions 300
// times 4^10: what is refused is not made first.
func TestFlowThatWouldNeverEnd(t *testing.T) {
	for _, line := range []string{"copy # 3\n", "union # # # #\n"} {
		text := "source 1\n"
		for at := range 10 {
			text += strings.ReplaceAll(line, "#", string(rune('0'+at)))
		}
		wantFault(t, nodes(t, text+"sink 10\n"), [][]api.Record{inTurn(300)}, api.ErrFull)
	}
}

func TestWrongWorkers(t *testing.T) {
	for _, workers := range noWorkers() {
		wantRefused(t, nodes(t, "source 1\nsink 0\n"), [][]api.Record{nil}, workers, api.ErrRange)
		wantRefused(t, nodes(t, "source 1\nsink 0\n"), [][]api.Record{few()}, workers, api.ErrRange)
		wantRefused(t, nodes(t, everyKind), twoLists(), workers, api.ErrRange)
	}
	for workers := 1; workers <= api.Groups; workers++ {
		if wantAsAll(t, nodes(t, everyKind), twoLists(), workers) == nil {
			t.Errorf("%d workers are refused", workers)
		}
	}
}
