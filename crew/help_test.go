package crew_test

import (
	"fmt"
	"reflect"
	"strings"
	"testing"

	"weirgate/api"
	"weirgate/crew"
	"weirgate/den"
	"weirgate/job"
	"weirgate/plain"
)

const (
	least    = -1 << 63
	greatest = 1<<63 - 1
	// byGroup has a key of one byte of each group, from 0 to 15.
	byGroup = "ajopmfklibghencd"
)

// everyKind is a job with nodes of all kinds, of two Sources, with two Sinks.
const everyKind = "source 3\nsource 8\nmap 0 n*2\nfilter 1 n%3\nunion 2 3 2 1\ncopy 4 2\nfold 5 s+n\nevery 5 3\nsub 6 n%4\nfirst 8\nsink 9\nsink 7\n"

func rec(key string, num, time int) api.Record { return api.Record{Key: key, Num: num, Time: time} }

func node(kind int, text string, n int, from ...int) api.Node {
	return api.Node{Kind: kind, From: from, Text: text, N: n}
}

// nodes are those of a job as it is printed.
func nodes(t *testing.T, text string) []api.Node {
	t.Helper()
	l, at, err := job.Parse(text)
	if err != nil {
		t.Fatalf("%q is wrong in line %d: %v", text, at, err)
	}
	return l
}

// few are records of keys that several have and of one that one has.
func few() []api.Record {
	return []api.Record{rec("b", 4, 9), rec("a", 1, 8), rec("b", 3, 0), rec("c", -2, 7), rec("a", 5, 6), rec("b", 4, 5)}
}

// times are so many records of one key, numbered from 1.
func times(many int, key string) []api.Record {
	var l []api.Record
	for i := range many {
		l = append(l, rec(key, i+1, 0))
	}
	return l
}

// inTurn are so many records, whose keys are all of byGroup in turn.
func inTurn(many int) []api.Record {
	var l []api.Record
	for i := range many {
		l = append(l, rec(byGroup[i%16:i%16+1], i+1, i))
	}
	return l
}

// twoLists are data of everyKind.
func twoLists() [][]api.Record { return [][]api.Record{inTurn(40), inTurn(33)} }

func long(many int) string { return strings.Repeat("k", many) }

// someWorkers are such numbers of workers that may be.
func someWorkers() []int { return []int{1, 2, 3, 7, 15, api.Groups} }

// noWorkers are such numbers of workers that cannot be.
func noWorkers() []int {
	return []int{0, -1, api.Groups + 1, 18, 32, -16, 1 << 32, 1<<32 + 1, least, least + 1, greatest, greatest - 1}
}

// wantAnswers holds both calls, by some numbers of workers, against what they
// are to print.
func wantAnswers(t *testing.T, text string, data [][]api.Record, lines, counts string) {
	t.Helper()
	l := nodes(t, text)
	for _, workers := range someWorkers() {
		got, err := crew.Run(l, data, workers)
		if fmt.Sprint(got) != lines || err != nil {
			t.Errorf("Run(%q, %v, %d) is %v, %v, want %v", text, data, workers, got, err, lines)
		}
		many, err := crew.Count(l, data, workers)
		if fmt.Sprint(many) != counts || err != nil {
			t.Errorf("Count(%q, %v, %d) is %v, %v, want %v", text, data, workers, many, err, counts)
		}
	}
}

// wantAsAll holds Run against den.All, and gives what it answered.
func wantAsAll(t *testing.T, l []api.Node, data [][]api.Record, workers int) [][]api.Line {
	t.Helper()
	want, wrong := den.All(l, data)
	got, err := crew.Run(l, data, workers)
	if !reflect.DeepEqual(got, want) || plain.Told(err) != plain.Told(wrong) {
		t.Errorf("Run(%v, %v, %d) is %v, %v, want %v, %v", l, data, workers, got, err, want, wrong)
	}
	return got
}

func wantCount(t *testing.T, l []api.Node, data [][]api.Record, workers int, want []int) {
	t.Helper()
	if got, err := crew.Count(l, data, workers); !reflect.DeepEqual(got, want) || err != nil {
		t.Errorf("Count(%v, %v, %d) is %v, %v, want %v", l, data, workers, got, err, want)
	}
}

// wantRefused holds that both calls refuse, with nothing else told.
func wantRefused(t *testing.T, l []api.Node, data [][]api.Record, workers int, want api.Errno) {
	t.Helper()
	if got, err := crew.Run(l, data, workers); len(got) > 0 || err == nil || plain.Told(err) != want {
		t.Errorf("Run(%v, .., %d) is %v, %v, want nothing, %v", l, workers, got, err, want)
	}
	if got, err := crew.Count(l, data, workers); len(got) > 0 || err == nil || plain.Told(err) != want {
		t.Errorf("Count(%v, .., %d) is %v, %v, want nothing, %v", l, workers, got, err, want)
	}
}

// wantFault holds that it is refused by any number of workers, and also by
// numbers that cannot be.
func wantFault(t *testing.T, l []api.Node, data [][]api.Record, want api.Errno) {
	t.Helper()
	if _, err := den.All(l, data); plain.Told(err) != want {
		t.Fatalf("All(%v) is %v, want %v", l, err, want)
	}
	for _, workers := range append(someWorkers(), noWorkers()...) {
		wantRefused(t, l, data, workers, want)
	}
}

func wantRight(t *testing.T, l []api.Node, data [][]api.Record) {
	t.Helper()
	for _, workers := range someWorkers() {
		if wantAsAll(t, l, data, workers) == nil {
			t.Errorf("Run(%v, .., %d) tells nothing", l, workers)
		}
		if got, err := crew.Count(l, data, workers); len(got) != len(l) || err != nil {
			t.Errorf("Count(%v, .., %d) is %v, %v", l, workers, got, err)
		}
	}
}
