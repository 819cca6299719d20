package den_test

import (
	"fmt"
	"math"
	"reflect"
	"strings"
	"testing"

	"weirgate/api"
	"weirgate/den"
	"weirgate/job"
	"weirgate/plain"
)

// nodes are those of a job as it is printed.
func nodes(t *testing.T, text string) []api.Node {
	t.Helper()
	l, at, err := job.Parse(text)
	if err != nil {
		t.Fatalf("%q is wrong in line %d: %v", text, at, err)
	}
	return l
}

// times are so many records of one key, numbered from 1.
func times(many int, key string) []api.Record {
	var l []api.Record
	for i := range many {
		l = append(l, rec(key, i+1, 0))
	}
	return l
}

func wantAll(t *testing.T, text string, data [][]api.Record, want string) {
	t.Helper()
	got, err := den.All(nodes(t, text), data)
	if fmt.Sprint(got) != want || err != nil {
		t.Errorf("All(%q, %v) is %v, %v, want %v", text, data, got, err, want)
	}
}

// wantChecked holds what Check says ahead of All: nothing of the flow.
func wantChecked(t *testing.T, l []api.Node, data [][]api.Record, want api.Errno) {
	t.Helper()
	if err := den.Check(l, data); plain.Told(err) != want {
		t.Errorf("Check(%v) is %v, want %v", l, err, want)
	}
}

func wantFault(t *testing.T, l []api.Node, data [][]api.Record, want api.Errno) {
	t.Helper()
	if got, err := den.All(l, data); got != nil || plain.Told(err) != want {
		t.Errorf("All(%v) is %v, %v, want nothing, %v", l, got, err, want)
	}
}

func wantRight(t *testing.T, l []api.Node, data [][]api.Record) {
	t.Helper()
	if _, err := den.All(l, data); err != nil {
		t.Errorf("All(%v) is %v, want nil", l, err)
	}
}

// D2

func few() [][]api.Record {
	return [][]api.Record{{rec("b", 4, 9), rec("a", 1, 8), rec("b", 3, 0), rec("c", -2, 7), rec("a", 5, 6), rec("b", 4, 5)}}
}

func TestAllOfEachKind(t *testing.T) {
	for _, c := range [][2]string{
		{"sink 0", "[[{a [1 5]} {b [4 3 4]} {c [-2]}]]"},
		{"map 0 n*n", "[[{a [1 25]} {b [16 9 16]} {c [4]}]]"},
		{"filter 0 n>3", "[[{a [5]} {b [4 4]}]]"},
		{"sub 0 n%3", "[[{a/1 [1]} {a/2 [5]} {b/0 [3]} {b/1 [4 4]} {c/-2 [-2]}]]"},
		{"copy 0 0", "[[]]"},
		{"copy 0 2", "[[{a [1 1 5 5]} {b [4 4 3 3 4 4]} {c [-2 -2]}]]"},
		{"union 0", "[[{0:a [1 5]} {0:b [4 3 4]} {0:c [-2]}]]"},
		{"fold 0 s*10+n", "[[{a [1 15]} {b [4 43 434]} {c [-2]}]]"},
		{"every 0 2", "[[{a [6]} {b [7]}]]"},
		{"first 0", "[[{a [1]} {b [4]} {c [-2]}]]"},
	} {
		if strings.HasPrefix(c[0], "sink") {
			wantAll(t, "source 3\nsink 0\n", few(), c[1])
		} else {
			wantAll(t, "source 3\n"+c[0]+"\nsink 1\n", few(), c[1])
		}
	}
}

func TestAllOfSeveralSinks(t *testing.T) {
	wantAll(t, "source 1\nsink 0\nmap 0 -n\nfilter 0 n>90\nsink 2\nsink 3\nsink 0\n", few(),
		"[[{a [1 5]} {b [4 3 4]} {c [-2]}] [{a [-1 -5]} {b [-4 -3 -4]} {c [2]}] [] [{a [1 5]} {b [4 3 4]} {c [-2]}]]")
}

// What a node hands on all get that have it in From, and none has another's
// states.
func TestAllOfNodeThatSeveralHave(t *testing.T) {
	wantAll(t, "source 1\nfold 0 s+n\nfold 1 s+n\nfold 1 s+n\nsink 1\nsink 2\nsink 3\nsink 2\n", [][]api.Record{times(4, "a")},
		"[[{a [1 3 6 10]}] [{a [1 4 10 20]}] [{a [1 4 10 20]}] [{a [1 4 10 20]}]]")
	wantAll(t, "source 1\nfirst 0\nevery 0 2\nunion 1 2 0\nsink 3\n", [][]api.Record{times(4, "a")},
		"[[{0:a [1]} {1:a [3 7]} {2:a [1 2 3 4]}]]")
}

func TestAllOfUnionThatNamesOneTwice(t *testing.T) {
	wantAll(t, "source 1\nunion 0 0\nsink 1\n", [][]api.Record{times(2, "a")}, "[[{0:a [1 2]} {1:a [1 2]}]]")
	wantAll(t, "source 1\nmap 0 -n\nunion 1 0 1 0\nfold 2 s+n\nsink 3\n", [][]api.Record{times(2, "a")},
		"[[{0:a [-1 -3]} {1:a [1 3]} {2:a [-1 -3]} {3:a [1 3]}]]")
	wantAll(t, "source 1\nunion 0 0\nunion 1 1\nfirst 2\nsink 3\n", [][]api.Record{times(2, "a")},
		"[[{0:0:a [1]} {0:1:a [1]} {1:0:a [1]} {1:1:a [1]}]]")
}

// Each Source has its own list, in their order, wherever it stands.
func TestAllOfSeveralSources(t *testing.T) {
	data := [][]api.Record{{rec("a", 1, 0)}, {rec("a", 2, 0), rec("b", 3, 0)}, nil, {rec("a", 4, 0)}}
	wantAll(t, "source 1\nsource 8\nsink 0\nsource 2\nsink 1\nsink 3\nunion 3 1 0\nsource 1\nsink 7\nsink 6\n", data,
		"[[{a [1]}] [{a [2]} {b [3]}] [] [{a [4]}] [{1:a [2]} {1:b [3]} {2:a [1]}]]")
}

func TestAllByBytes(t *testing.T) {
	keys := []string{"b", "a\xff", "a", "ab", "\xff", "", "B", "a\x00", "é", "a/", "10", "9", "-1"}
	var data []api.Record
	for i, key := range keys {
		data = append(data, rec(key, i, 0))
	}
	for _, key := range keys {
		data = append(data, rec(key, 50, 0))
	}
	got, err := den.All(nodes(t, "source 4\nsink 0\n"), [][]api.Record{data})
	var told []string
	for _, line := range got[0] {
		told = append(told, line.Key)
		if len(line.Nums) != 2 || keys[line.Nums[0]] != line.Key || line.Nums[1] != 50 {
			t.Errorf("%q has %v", line.Key, line.Nums)
		}
	}
	want := []string{"", "-1", "10", "9", "B", "a", "a\x00", "a/", "ab", "a\xff", "b", "é", "\xff"}
	if err != nil || !reflect.DeepEqual(told, want) {
		t.Errorf("the keys are %q, %v, want %q", told, err, want)
	}
}

func TestAllKeysThatGrowTooLong(t *testing.T) {
	key := strings.Repeat("k", 36)
	data := [][]api.Record{{rec(key, 1, 0), rec(key+"k", 2, 0), rec(key, 12, 0), rec(key[1:], -3, 0)}}
	wantAll(t, "source 1\nsub 0 n\nunion 1\nsink 2\n", data,
		"[[{0:"+key[1:]+"/-3 [-3]} {0:"+key+"/1 [1]}]]")
	wantAll(t, "source 1\nunion 0\nunion 1\nunion 2\nsink 3\n", [][]api.Record{times(2, key)}, "[[]]")
}

func TestAllWithoutRecords(t *testing.T) {
	wantAll(t, "source 1\nsink 0\n", [][]api.Record{nil}, "[[]]")
	wantAll(t, "source 1\nsource 1\nunion 0 1\nsink 2\nsink 0\n", [][]api.Record{{}, nil}, "[[] []]")
}

// D2, what is wrong

func TestAllOfWrongJob(t *testing.T) {
	wrong := [][]api.Record{times(301, "a"), {rec("a", 0, -1)}}
	source, sink := node(api.Source, "", 1), node(api.Sink, "", 0, 0)
	for _, c := range []struct {
		l    []api.Node
		want api.Errno
	}{
		{make([]api.Node, 13), api.ErrFull},
		{[]api.Node{source, node(11, "", 0, 0), sink}, api.ErrRange},
		{[]api.Node{source, node(api.Map, "n", 0), sink}, api.ErrShape},
		{[]api.Node{source, node(api.Map, "n", 0, 1), sink}, api.ErrRange},
		{[]api.Node{source, sink, node(api.Map, "n", 0, 1)}, api.ErrState},
		{[]api.Node{source, node(api.Copy, "", 4, 0), sink}, api.ErrRange},
		{[]api.Node{source, node(api.Map, "n+", 0, 0), sink}, api.ErrSyntax},
		{[]api.Node{source, node(api.Map, "", 0, 0), sink}, api.ErrSyntax},
		{nil, api.ErrNone},
		{[]api.Node{source}, api.ErrNone},
	} {
		for _, data := range [][][]api.Record{nil, {nil}, {times(2, "a")}, wrong} {
			wantFault(t, c.l, data, c.want)
			wantChecked(t, c.l, data, c.want)
		}
	}
}

func TestAllOfTooFewAndTooManyLists(t *testing.T) {
	for _, c := range []struct {
		text    string
		sources int
	}{
		{"source 8\nsink 0\n", 1},
		{"source 1\nsource 1\nsink 1\nsource 1\n", 3},
		{strings.Repeat("source 1\n", 11) + "sink 0\n", 11},
	} {
		l := nodes(t, c.text)
		for many := range 14 {
			right, wrong := make([][]api.Record, many), make([][]api.Record, many)
			for i := range wrong {
				wrong[i] = times(301, "a")
			}
			if many == c.sources {
				wantRight(t, l, right)
				wantFault(t, l, wrong, api.ErrFull)
			} else {
				wantFault(t, l, right, api.ErrShape)
				wantFault(t, l, wrong, api.ErrShape) // ahead of what is wrong with a list
			}
		}
	}
}

func TestAllOfWrongRecords(t *testing.T) {
	l := nodes(t, "source 1\nsource 1\nsink 0\n")
	long := strings.Repeat("k", api.MaxKey)
	for _, r := range []api.Record{rec("", 0, 0), rec(long, 0, 0), rec("a", 0, 1), rec("a", 0, api.MaxTime), rec("a", math.MinInt, 0), rec("a", math.MaxInt, 0)} {
		wantRight(t, l, [][]api.Record{{r}, {r}})
		wantChecked(t, l, [][]api.Record{{r}, {r}}, api.OK)
		if !den.IsRecord(r) {
			t.Errorf("%v is none", r)
		}
	}
	for _, r := range []api.Record{
		rec(long+"k", 0, 0), rec(strings.Repeat("k", 1000), 0, 0), rec("a", 0, -1), rec("a", 0, math.MinInt), rec("a", 0, api.MaxTime+1), rec("a", 0, math.MaxInt),
	} {
		wantFault(t, l, [][]api.Record{{r}, nil}, api.ErrRange)
		wantFault(t, l, [][]api.Record{nil, {r}}, api.ErrRange)
		wantChecked(t, l, [][]api.Record{nil, {r}}, api.ErrRange)
		if den.IsRecord(r) {
			t.Errorf("%v is one", r)
		}
		wantChecked(t, l, [][]api.Record{{r}}, api.ErrShape)
		last := append(times(api.MaxData-1, "a"), r)
		wantFault(t, l, [][]api.Record{last, nil}, api.ErrRange)
		wantFault(t, l, [][]api.Record{times(3, "a"), last}, api.ErrRange)
		// ErrFull is told first of one list, but the first list that is wrong first of all
		wantFault(t, l, [][]api.Record{append(last, rec("a", 0, 0)), nil}, api.ErrFull)
		wantFault(t, l, [][]api.Record{append([]api.Record{r}, last...), nil}, api.ErrFull)
		wantFault(t, l, [][]api.Record{last, times(api.MaxData+1, "a")}, api.ErrRange)
		wantFault(t, l, [][]api.Record{times(api.MaxData+1, "a"), last}, api.ErrFull)
	}
}

func TestAllOfMostRecords(t *testing.T) {
	l := nodes(t, "source 1\nsource 1\nsink 0\nsink 1\n")
	most, more := times(api.MaxData, "a"), times(api.MaxData+1, "a")
	wantRight(t, l, [][]api.Record{most, most})
	wantFault(t, l, [][]api.Record{more, nil}, api.ErrFull)
	wantFault(t, l, [][]api.Record{nil, more}, api.ErrFull)
	wantFault(t, l, [][]api.Record{nil, times(100_000, "a")}, api.ErrFull)
	got, err := den.All(l, [][]api.Record{most, nil})
	if err != nil || len(got) != 2 || len(got[0]) != 1 || len(got[0][0].Nums) != api.MaxData || got[0][0].Nums[299] != 300 {
		t.Errorf("All of most records is %v, %v", got, err)
	}
}

// Copies of copies are 9 of each, and all 2000 as 1998 and what a second list
// brings; a node counts what it hands on, however many get it, or none.
func TestAllOfMostFlow(t *testing.T) {
	for _, behind := range []string{"sink 4\n", "sink 0\n", "sink 4\nsink 4\nsink 4\n", "map 4 n\nmap 4 n\nunion 5\nsink 0\n"} {
		l := nodes(t, "source 1\nsource 1\ncopy 0 3\ncopy 2 3\nunion 3 1\n"+behind)
		wantRight(t, l, [][]api.Record{times(222, "a"), times(2, "b")})
		wantFault(t, l, [][]api.Record{times(222, "a"), times(3, "b")}, api.ErrFull)
		wantFault(t, l, [][]api.Record{times(222, "a"), times(300, "b")}, api.ErrFull)
		wantFault(t, l, [][]api.Record{times(223, "a"), nil}, api.ErrFull)
		wantChecked(t, l, [][]api.Record{times(223, "a"), nil}, api.OK)
		wantFault(t, l, [][]api.Record{times(300, "a"), times(301, "b")}, api.ErrFull)
		wantFault(t, l, [][]api.Record{times(300, "a"), {rec("b", 0, -1)}}, api.ErrRange) // ahead of the flow
	}
	got, err := den.All(nodes(t, "source 1\nsource 1\ncopy 0 3\ncopy 2 3\nunion 3 1\nsink 4\n"), [][]api.Record{times(222, "a"), times(2, "b")})
	if err != nil || len(got[0]) != 2 || len(got[0][0].Nums) != 1998 || len(got[0][1].Nums) != 2 {
		t.Errorf("All of most flow is %v, %v", got, err)
	}
}

// A node that got more than it hands on is right.
func TestAllOfFlowThatIsLetGo(t *testing.T) {
	l := nodes(t, "source 1\ncopy 0 3\ncopy 1 2\nunion 2 2 2 2\nsink 0\n")
	long := strings.Repeat("k", 39) // a Union hands on none of it
	wantRight(t, l, [][]api.Record{times(300, long)})
	wantRight(t, l, [][]api.Record{append(times(217, long), times(83, "a")...)})              // 4 times 6 times 83 are 1992
	wantFault(t, l, [][]api.Record{append(times(216, long), times(84, "a")...)}, api.ErrFull) // of 84 they are 2016
}

// P2

func TestAllLeavesWhatIsHandedIn(t *testing.T) {
	text := "source 1\nsource 1\nunion 1 0\nsub 2 n\nfold 3 s+n\nsink 4\n"
	l, room := nodes(t, text), append(few(), few()...)
	data := room[:1:2]
	if _, err := den.All(l, data); plain.Told(err) != api.ErrShape {
		t.Errorf("a list behind the length was read: %v", err)
	}
	den.All(l, room)
	den.All(nodes(t, "source 1\nunion 0 0 0 0\nsink 1\n"), data)
	if !reflect.DeepEqual(room, append(few(), few()...)) || !reflect.DeepEqual(l, nodes(t, text)) {
		t.Errorf("%v and %v became others", l, room)
	}
}

func TestAllAnswersShareNothing(t *testing.T) {
	l := nodes(t, "source 1\nsink 0\nsink 0\n")
	got, _ := den.All(l, few())
	for i, line := range got[0] {
		nums := line.Nums[:cap(line.Nums)]
		for j := range nums {
			nums[j] = 99
		}
		got[0][i].Key = "spoiled"
		for _, later := range got[0][i+1:] {
			for _, num := range later.Nums {
				if num == 99 {
					t.Errorf("%v shares its numbers", later)
				}
			}
		}
	}
	want := "[{a [1 5]} {b [4 3 4]} {c [-2]}]"
	again, _ := den.All(l, few())
	if fmt.Sprint(got[1]) != want || fmt.Sprint(again[0]) != want {
		t.Errorf("other lines became %v and %v", got[1], again[0])
	}
}
