package engine_test

import (
	"math/rand"
	"testing"

	"weirgate/api"
	"weirgate/plain"
)

// R2

func TestTriggerCounts(t *testing.T) {
	e := made(t, nodes(t, everyKind), twoLists(), 3)
	wantDone(t, e)
	var done []int
	for number := 1; number <= 60; number++ {
		checkpoint(t, e, number)
		done = append(done, number)
		wantDone(t, e, done...)
		for i := range number % 7 {
			e.Step(i)
		}
	}
}

// ErrState, and nothing is changed, while one is under way.
func TestTriggerWhileUnderWay(t *testing.T) {
	l, data := nodes(t, everyKind), twoLists()
	for _, ahead := range []int{0, 1, 40, 10_000} {
		e := made(t, l, data, 4)
		for i := range ahead {
			e.Step(i * 3)
		}
		wantTriggered(t, e, 1)
		for many := 0; len(e.Done()) == 0; many++ {
			before := told(e)
			if number, err := e.Trigger(); number != 0 || plain.Told(err) != api.ErrState {
				t.Errorf("Trigger is %d, %v while one is under way", number, err)
			}
			wantAsTold(t, e, before)
			if !e.Step(many) {
				t.Fatal("there is no step, and it is not completed")
			}
		}
		wantTriggered(t, e, 2)
		wantEnds(t, e, all(t, l, data))
		wantDone(t, e, 1, 2, 3)
	}
}

// It is completed behind some steps, not at once.
func TestTriggerTakesSteps(t *testing.T) {
	for _, data := range [][][]api.Record{{nil, nil}, twoLists()} {
		for workers := 1; workers <= 16; workers++ {
			e := made(t, nodes(t, everyKind), data, workers)
			for number := 1; number <= 3; number++ {
				stepsToEnd(e)
				wantTriggered(t, e, number)
				if len(e.Done()) != number-1 || e.Enabled() == 0 {
					t.Errorf("Done is %v, Enabled %d, right behind Trigger", e.Done(), e.Enabled())
				}
				stepsToEnd(e)
				if len(e.Done()) != number {
					t.Errorf("Done is %v, behind all steps", e.Done())
				}
			}
		}
	}
}

// Ahead of the first one that is completed nothing is written, whatever the
// Sinks have got.
func TestNothingWrittenAheadOfTheFirst(t *testing.T) {
	l, data := nodes(t, everyKind), twoLists()
	e := made(t, l, data, 5)
	for i := 0; e.Step(i); i++ {
		wantNothingWritten(t, e, 2)
	}
	wantLag(t, e, 0)
	wantTriggered(t, e, 1)
	for i := 0; len(e.Done()) == 0; i++ {
		wantNothingWritten(t, e, 2)
		if len(e.States()) != 0 {
			t.Errorf("there are states: %v", e.States())
		}
		e.Step(i)
	}
	wantWritten(t, e, all(t, l, data))
}

// A checkpoint of nothing, at the beginning.
func TestTriggerAtTheBeginning(t *testing.T) {
	l, data := nodes(t, "source 2\nfold 0 s+n\nsink 1\n"), [][]api.Record{nil}
	e := made(t, l, data, 2)
	checkpoint(t, e, 1)
	wantDone(t, e, 1)
	wantNothingWritten(t, e, 1)
	wantLag(t, e, 0)
	if e.Enabled() != 0 {
		t.Errorf("Enabled is %d", e.Enabled())
	}
}

// Of one split, what was handed over are just the first ones.
func TestWrittenOfOneSplit(t *testing.T) {
	l := nodes(t, "source 1\nfold 0 s*3+n\ncopy 1 2\nsub 2 n%5\nsink 3\nsink 0\n")
	data := inTurn(60)
	for workers := 1; workers <= 16; workers++ {
		e := made(t, l, [][]api.Record{data}, workers)
		for number := 1; e.Lag() > 0; number++ {
			for i := range workers + number%5*9 {
				e.Step(i * i)
			}
			checkpoint(t, e, number)
			handed := data[:len(data)-e.Lag()]
			wantWritten(t, e, all(t, l, [][]api.Record{handed}))
		}
	}
}

// Behind each one that is completed what is kept is what came of just what all
// Sources had handed over by then. What is done behind it, changes nothing.
func TestWrittenByCheckpoint(t *testing.T) {
	random := rand.New(rand.NewSource(5))
	midway := 0
	for range 300 {
		l, data := thrown(t, random, 25)
		e := made(t, l, data, 1+random.Intn(16))
		for number := 1; e.Enabled() > 0; number++ {
			for range random.Intn(60) {
				e.Step(random.Int())
			}
			wantTriggered(t, e, number)
			for len(e.Done()) < number {
				e.Step(random.Int())
			}
			lag := wantKept(t, e, l, data)
			wantLag(t, e, lag)
			if lag > 0 {
				midway++
			}
			kept := told(e)
			for range random.Intn(20) {
				e.Step(random.Int())
			}
			now := told(e)
			now.enabled, now.lag = kept.enabled, kept.lag
			if t.Failed() {
				t.Fatalf("job %v, data %v", l, data)
			}
			wantSame(t, now, kept)
		}
	}
	if midway < 300 {
		t.Errorf("only %d checkpoints were ahead of the end", midway)
	}
}

// Lag is how many the Sources have not handed over yet, whoever gets them.
func TestLagFallsToNone(t *testing.T) {
	for _, text := range []string{"source 4\nsink 0\n", "source 4\ncopy 0 0\nsink 1\n", "source 4\nsource 1\nsink 1\n"} {
		l := nodes(t, text)
		data := [][]api.Record{inTurn(30), inTurn(3)}
		if l[1].Kind != api.Source {
			data = data[:1]
		}
		e := made(t, l, data, 2)
		want := 0
		for _, list := range data {
			want += len(list)
		}
		wantLag(t, e, want)
		stepsToEnd(e)
		wantLag(t, e, 0)
	}
}
