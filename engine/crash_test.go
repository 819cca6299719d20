package engine_test

import (
	"math/rand"
	"reflect"
	"slices"
	"testing"

	"weirgate/api"
	"weirgate/engine"
)

// R3

// Ahead of any checkpoint all is lost, and it goes on from its beginning.
func TestCrashAheadOfAny(t *testing.T) {
	l, data := nodes(t, everyKind), twoLists()
	for _, done := range []int{0, 1, 30, 100, 100_000} {
		e := made(t, l, data, 3)
		for i := range done {
			e.Step(i * 11)
		}
		wantCrashed(t, e, 3)
		wantAsTold(t, e, told(made(t, l, data, 3)))
		wantEnds(t, e, all(t, l, data))
		wantDone(t, e, 1)
	}
}

// Between two, it goes on as it was at the first of them.
func TestCrashBetween(t *testing.T) {
	l, data := nodes(t, everyKind), twoLists()
	for workers := 1; workers <= 16; workers++ {
		e := made(t, l, data, 5)
		steps(t, e, 60)
		checkpoint(t, e, 1)
		kept := told(e)
		if kept.lag == 0 || kept.lag == 73 {
			t.Fatalf("Lag is %d at the checkpoint", kept.lag)
		}
		for range 3 {
			steps(t, e, 25)
			if e.Lag() == kept.lag {
				t.Fatal("nothing was handed over")
			}
			wantCrashed(t, e, workers)
			kept.enabled = e.Enabled()
			wantAsTold(t, e, kept)
		}
		steps(t, e, 10)
		checkpoint(t, e, 2)
		wantDone(t, e, 1, 2)
		wantEnds(t, e, all(t, l, data))
		wantDone(t, e, 1, 2, 3)
	}
}

// One that was under way never completes, and its number does not come again.
func TestCrashWhileUnderWay(t *testing.T) {
	l, data := nodes(t, everyKind), twoLists()
	whole := 0
	for {
		e := made(t, l, data, 3)
		steps(t, e, 40)
		checkpoint(t, e, 1)
		kept := told(e)
		steps(t, e, 20)
		wantTriggered(t, e, 2)
		steps(t, e, whole)
		if len(e.Done()) == 2 {
			break
		}
		wantCrashed(t, e, 4)
		kept.enabled = e.Enabled()
		wantAsTold(t, e, kept)
		stepsToEnd(e)
		wantDone(t, e, 1)
		wantWritten(t, e, kept.written)
		wantTriggered(t, e, 3)
		stepsToEnd(e)
		wantDone(t, e, 1, 3)
		wantLag(t, e, 0)
		wantWritten(t, e, all(t, l, data))
		whole++
	}
	if whole < 20 {
		t.Errorf("a checkpoint takes %d steps only", whole)
	}
}

// So it is with the first one, too, and with several that never complete.
func TestCrashWhileTheFirstIsUnderWay(t *testing.T) {
	l, data := nodes(t, everyKind), twoLists()
	e := made(t, l, data, 2)
	for number := 1; number <= 5; number++ {
		steps(t, e, 10)
		wantTriggered(t, e, number)
		steps(t, e, number)
		wantCrashed(t, e, number)
		wantDone(t, e)
		wantNothingWritten(t, e, 2)
		wantLag(t, e, 73)
		if _, number := e.Picture(); number != 0 {
			t.Errorf("the picture is of %d", number)
		}
	}
	checkpoint(t, e, 6)
	wantDone(t, e, 6)
	wantEnds(t, e, all(t, l, data))
	wantDone(t, e, 6, 7)
}

// A crash right behind Trigger, and one right behind the last step of it.
func TestCrashAtTheEdges(t *testing.T) {
	l, data := nodes(t, everyKind), twoLists()
	e := made(t, l, data, 2)
	stepsToEnd(e)
	wantTriggered(t, e, 1)
	wantCrashed(t, e, 16)
	wantLag(t, e, 73)
	wantDone(t, e)
	stepsToEnd(e)
	checkpoint(t, e, 2)
	wantCrashed(t, e, 1)
	wantDone(t, e, 2)
	wantLag(t, e, 0)
	wantWritten(t, e, all(t, l, data))
	if e.Enabled() != 0 {
		t.Errorf("Enabled is %d, where all is kept", e.Enabled())
	}
	wantEnds(t, e, all(t, l, data))
}

// ErrRange, and nothing is changed: neither what is kept nor what is not.
func TestCrashOfWrongWorkers(t *testing.T) {
	l, data := nodes(t, everyKind), twoLists()
	e, other := made(t, l, data, 3), made(t, l, data, 3)
	wrong := func() {
		t.Helper()
		before := told(e)
		for _, workers := range noWorkers() {
			wantTold(t, e.Crash(workers), api.ErrRange)
			wantAsTold(t, e, before)
		}
	}
	wrong()
	for _, e := range []*engine.Engine{e, other} {
		steps(t, e, 30)
	}
	wrong()
	for _, e := range []*engine.Engine{e, other} {
		checkpoint(t, e, 1)
		steps(t, e, 20)
		wantTriggered(t, e, 2)
		steps(t, e, 5)
	}
	wrong()
	for e.Step(3) {
		other.Step(3)
		wantAsTold(t, e, told(other))
	}
	wantDone(t, e, 1, 2)
}

// The states do not hang on how many workers there are.
func TestStatesOfAnyWorkers(t *testing.T) {
	l, data := nodes(t, everyKind), twoLists()
	want := secondStates(l, data)
	if len(want) < 50 {
		t.Fatalf("there are few states: %v", want)
	}
	for workers := 1; workers <= 16; workers++ {
		e := made(t, l, data, workers)
		stepsToEnd(e)
		checkpoint(t, e, 1)
		if got := e.States(); !reflect.DeepEqual(got, want) {
			t.Errorf("the states of %d workers are %v, want %v", workers, got, want)
		}
		wantCrashed(t, e, 17-workers)
		if got := e.States(); !reflect.DeepEqual(got, want) {
			t.Errorf("behind a crash the states of %d workers are %v, want %v", workers, got, want)
		}
	}
}

// They stand by Node, then Key by bytes, of nodes without a Sink too.
func TestStatesInOrder(t *testing.T) {
	l := nodes(t, "source 2\nfirst 0\nevery 0 2\nfold 1 n-s\nsink 0\n")
	e := made(t, l, [][]api.Record{{rec("b", 7, 0), rec("a", 5, 0), rec("\xff", 2, 0), rec("a", 4, 0), rec("", 1, 0), rec("aa", 3, 0), rec("B", 9, 0), rec("a", 1, 0)}}, 3)
	stepsToEnd(e)
	checkpoint(t, e, 1)
	want := []api.Held{
		{Node: 1, Key: "", A: 1}, {Node: 1, Key: "B", A: 1}, {Node: 1, Key: "a", A: 1}, {Node: 1, Key: "aa", A: 1}, {Node: 1, Key: "b", A: 1}, {Node: 1, Key: "\xff", A: 1},
		{Node: 2, Key: "", A: 1, B: 1}, {Node: 2, Key: "B", A: 1, B: 9}, {Node: 2, Key: "a", A: 1, B: 1}, {Node: 2, Key: "aa", A: 1, B: 3}, {Node: 2, Key: "b", A: 1, B: 7}, {Node: 2, Key: "\xff", A: 1, B: 2},
		{Node: 3, Key: "", A: 1}, {Node: 3, Key: "B", A: 9}, {Node: 3, Key: "a", A: 5}, {Node: 3, Key: "aa", A: 3}, {Node: 3, Key: "b", A: 7}, {Node: 3, Key: "\xff", A: 2},
	}
	if got := e.States(); !slices.Equal(got, want) {
		t.Errorf("States are %v, want %v", got, want)
	}
}

// A node has as many states as keys come to it, far more than MaxItems.
func TestStatesOfManyKeys(t *testing.T) {
	l := nodes(t, "source 3\nsource 8\nunion 0 1 0 1\nfold 2 s+n\nfirst 2\nevery 4 2\nsink 3\n")
	var data [][]api.Record
	for range 2 {
		var list []api.Record
		for i := range 300 {
			list = append(list, rec(string(rune('a'+i/26))+string(rune('a'+i%26)), i, i))
		}
		data = append(data, list)
	}
	want := secondStates(l, data)
	if len(want) != 3600 {
		t.Fatalf("there are %d states", len(want))
	}
	for _, workers := range []int{1, 16} {
		e := made(t, l, data, workers)
		stepsToEnd(e)
		checkpoint(t, e, 1)
		wantCrashed(t, e, 17-workers)
		if got := e.States(); !slices.Equal(got, want) {
			t.Errorf("there are %d states, or others: %v", len(got), got)
		}
		picture, _ := e.Picture()
		wantEnds(t, restored(t, l, data, picture, 3), all(t, l, data))
	}
}

// What comes out is the caller's.
func TestAnswersAreFresh(t *testing.T) {
	l, data := nodes(t, everyKind), twoLists()
	e := made(t, l, data, 3)
	steps(t, e, 80)
	checkpoint(t, e, 1)
	before := told(e)
	spoilt := told(e)
	fill(spoilt.picture)
	for i := range spoilt.done {
		spoilt.done[i] = 99
	}
	_ = append(spoilt.done, 98)
	for i := range spoilt.states {
		spoilt.states[i] = api.Held{}
	}
	for _, lines := range spoilt.written {
		for i := range lines {
			for j := range lines[i].Nums {
				lines[i].Nums[j] = 99
			}
			_ = append(lines[i].Nums, 98)
			lines[i] = api.Line{}
		}
	}
	wantAsTold(t, e, before)
	checkpoint(t, e, 2)
	wantDone(t, e, 1, 2)
	wantCrashed(t, e, 2)
	wantEnds(t, e, all(t, l, data))
}

// What was told stays as it was, whatever is done behind it.
func TestAnswersStay(t *testing.T) {
	random := rand.New(rand.NewSource(6))
	l, data := nodes(t, everyKind), twoLists()
	e := made(t, l, data, 3)
	var now, then []answers
	for number := 1; e.Lag() > 0; number++ {
		for range random.Intn(40) {
			e.Step(random.Int())
		}
		checkpoint(t, e, number)
		now, then = append(now, told(e)), append(then, told(e))
	}
	wantEnds(t, e, all(t, l, data))
	if !reflect.DeepEqual(now, then) || len(now) < 3 {
		t.Errorf("what was told has become %v, of %v", now, then)
	}
	for i, one := range now {
		again := restored(t, l, data, one.picture, 3)
		one.enabled, one.done = again.Enabled(), []int{i + 1}
		wantAsTold(t, again, one)
	}
}
