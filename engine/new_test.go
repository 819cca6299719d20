package engine_test

import (
	"reflect"
	"slices"
	"testing"

	"weirgate/api"
	"weirgate/den"
	"weirgate/engine"
	"weirgate/job"
	"weirgate/plain"
)

// R1, New

// wrongJobs have a fault each.
func wrongJobs() map[string][]api.Node {
	source, sink := api.Node{Kind: api.Source, N: 2}, api.Node{Kind: api.Sink, From: []int{0}}
	return map[string][]api.Node{
		"no node":               nil,
		"no Sink":               {source},
		"no Source":             {{Kind: api.Sink}},
		"no kind":               {source, {Kind: 11, From: []int{0}}, sink},
		"a Source with From":    {source, {Kind: api.Source, N: 1, From: []int{0}}, sink},
		"of none":               {source, sink, {Kind: api.Sink}},
		"of its own":            {source, sink, {Kind: api.First, From: []int{2}}},
		"of a Sink":             {source, sink, {Kind: api.First, From: []int{1}}},
		"a needless N":          {source, sink, {Kind: api.First, From: []int{0}, N: 1}},
		"a needless Text":       {source, sink, {Kind: api.First, From: []int{0}, Text: "n"}},
		"too many splits":       {{Kind: api.Source, N: 9}, sink},
		"no splits":             {{Kind: api.Source}, sink},
		"an expression is none": {source, sink, {Kind: api.Map, From: []int{0}, Text: "n+"}},
		"too long a Text":       {source, sink, {Kind: api.Map, From: []int{0}, Text: long(121)}},
		"too many nodes":        append([]api.Node{source}, slices.Repeat([]api.Node{sink}, 12)...),
	}
}

// wrongData are none for a job of two Sources.
func wrongData() map[string][][]api.Record {
	return map[string][][]api.Record{
		"no list":             nil,
		"a list":              {inTurn(3)},
		"three lists":         {nil, inTurn(3), nil},
		"too many records":    {nil, inTurn(301)},
		"too long a key":      {inTurn(3), {rec("a", 1, 1), rec(long(41), 1, 1)}},
		"too early":           {{rec("a", 1, -1)}, nil},
		"too late":            {nil, {rec("a", 1, 1_000_001)}},
		"too long, then many": {{rec(long(41), 1, 1)}, inTurn(301)},
	}
}

const twoSources = "source 3\nsource 1\ncopy 0 3\nunion 2 2 2\nfirst 1\nsink 4\n"

// wantNoEngine holds what New and Restore answer to what cannot be.
func wantNoEngine(t *testing.T, l []api.Node, data [][]api.Record, workers int, want api.Errno) {
	t.Helper()
	if e, err := engine.New(l, data, workers); e != nil || plain.Told(err) != want {
		t.Errorf("New(%v, %v, %d) is %v, %v, want nothing, %v", l, data, workers, e, err, want)
	}
	right, _ := made(t, nodes(t, everyKind), twoLists(), 3).Picture()
	for _, picture := range [][]byte{nil, right, {1, 2, 3}} {
		if e, err := engine.Restore(l, data, picture, workers); e != nil || plain.Told(err) != want {
			t.Errorf("Restore(%v, %v, .., %d) is %v, %v, want nothing, %v", l, data, workers, e, err, want)
		}
	}
}

func TestNewOfWrongJob(t *testing.T) {
	for name, l := range wrongJobs() {
		want := plain.Told(job.Check(l))
		if want == api.OK {
			t.Errorf("%s is not wrong", name)
		}
		for _, data := range [][][]api.Record{nil, {inTurn(3)}, {inTurn(301)}, {inTurn(3), inTurn(3)}} {
			for _, workers := range []int{1, 16, 0, 17} {
				wantNoEngine(t, l, data, workers, want)
			}
		}
	}
}

func TestNewOfWrongData(t *testing.T) {
	l := nodes(t, twoSources)
	for name, data := range wrongData() {
		_, err := den.All(l, data)
		want := plain.Told(err)
		if want == api.OK {
			t.Errorf("%s is not wrong", name)
		}
		for _, workers := range []int{1, 5, 16, 0, 17, least} {
			wantNoEngine(t, l, data, workers, want)
		}
	}
}

// A node hands on 2000 records at most, also where no Sink has it.
func TestNewOfTooGreatFlow(t *testing.T) {
	l := nodes(t, twoSources)
	data := [][]api.Record{inTurn(223), nil} // 9 of each
	for _, workers := range []int{1, 16, -1} {
		wantNoEngine(t, l, data, workers, api.ErrFull)
	}
	data[0] = data[0][:222]
	wantEnds(t, made(t, l, data, 4), all(t, l, data))
}

func TestNewOfWrongWorkers(t *testing.T) {
	for _, workers := range noWorkers() {
		wantNoEngine(t, nodes(t, everyKind), twoLists(), workers, api.ErrRange)
		wantNoEngine(t, nodes(t, "source 1\nsink 0\n"), [][]api.Record{nil}, workers, api.ErrRange)
	}
}

func TestNewHasDoneNothing(t *testing.T) {
	for workers := 1; workers <= 16; workers++ {
		e := made(t, nodes(t, everyKind), twoLists(), workers)
		wantNothingWritten(t, e, 2)
		wantDone(t, e)
		wantLag(t, e, 73)
		if states := e.States(); len(states) != 0 {
			t.Errorf("there are states: %v", states)
		}
		if picture, number := e.Picture(); len(picture) == 0 || number != 0 {
			t.Errorf("Picture is %v, %d", picture, number)
		}
	}
}

func TestNewOfMost(t *testing.T) {
	l := nodes(t, "source 1\nsource 8\nsource 2\nsource 5\nunion 0 1 2 3\nfold 4 s+n\nunion 5\nunion 6\nfold 7 s-n\nsub 8 n\nevery 9 1\nsink 10\n")
	data := [][]api.Record{inTurn(300), inTurn(300), inTurn(300), inTurn(300)}
	for _, workers := range []int{1, 7, 16} {
		e := made(t, l, data, workers)
		wantLag(t, e, 1200)
		wantEnds(t, e, all(t, l, data))
	}
}

// What was handed in is neither written into nor kept.
func TestNewKeepsNoList(t *testing.T) {
	l, data := nodes(t, everyKind), twoLists()
	want := all(t, l, data)
	picture, _ := made(t, l, data, 1).Picture()
	for _, make := range []func(l []api.Node, data [][]api.Record) (*engine.Engine, error){
		func(l []api.Node, data [][]api.Record) (*engine.Engine, error) { return engine.New(l, data, 3) },
		func(l []api.Node, data [][]api.Record) (*engine.Engine, error) {
			b := slices.Clone(picture)
			defer fill(b)
			return engine.Restore(l, data, b, 3)
		},
	} {
		l, data := nodes(t, everyKind), twoLists()
		e, err := make(l, data)
		wantTold(t, err, api.OK)
		if !reflect.DeepEqual(l, nodes(t, everyKind)) || !reflect.DeepEqual(data, twoLists()) {
			t.Errorf("what was handed in has become %v, %v", l, data)
		}
		for i := range l {
			for j := range l[i].From {
				l[i].From[j] = 0
			}
			l[i].Kind, l[i].Text, l[i].N = api.First, "", 0
		}
		for i := range data {
			for j := range data[i] {
				data[i][j] = rec("z", 0, 0)
			}
			data[i] = nil
		}
		steps(t, e, 30)
		checkpoint(t, e, 1)
		wantCrashed(t, e, 5)
		wantEnds(t, e, want)
	}
}

// What lies behind a list's length in its memory is neither read nor written.
func TestNewOfListsWithMoreBehind(t *testing.T) {
	l, data := nodes(t, everyKind), twoLists()
	e := made(t, l, [][]api.Record{data[0][:20], data[1][:0]}, 2)
	wantLag(t, e, 20)
	wantEnds(t, e, all(t, l, [][]api.Record{data[0][:20], nil}))
	if !reflect.DeepEqual(data, twoLists()) {
		t.Errorf("the lists have become %v", data)
	}
}

func TestEnginesAreApart(t *testing.T) {
	l, data := nodes(t, everyKind), twoLists()
	one, other := made(t, l, data, 2), made(t, l, data, 2)
	before := told(other)
	steps(t, one, 50)
	checkpoint(t, one, 1)
	steps(t, one, 10)
	wantAsTold(t, other, before)
	steps(t, other, 20)
	checkpoint(t, other, 1)
	wantCrashed(t, one, 3)
	wantEnds(t, other, all(t, l, data))
	wantEnds(t, one, all(t, l, data))
}
