package engine_test

import (
	"math/rand"
	"reflect"
	"testing"

	"weirgate/api"
	"weirgate/engine"
)

// R1, Enabled and Step

func TestNoStepChangesNothing(t *testing.T) {
	l, data := nodes(t, everyKind), twoLists()
	e := made(t, l, data, 3)
	wantNoStep := func() {
		t.Helper()
		before := told(e)
		if before.enabled != 0 {
			t.Errorf("Enabled is %d behind the end", before.enabled)
		}
		for _, pick := range []int{0, 1, -1, 100, least, greatest} {
			if e.Step(pick) {
				t.Errorf("Step(%d) is true where Enabled is 0", pick)
			}
			wantAsTold(t, e, before)
		}
	}
	stepsToEnd(e)
	wantNoStep()
	wantTriggered(t, e, 1)
	stepsToEnd(e)
	wantNoStep()
	wantTriggered(t, e, 2)
	stepsToEnd(e)
	wantDone(t, e, 1, 2)
	wantWritten(t, e, all(t, l, data))
}

// Step is true just where Enabled is not 0.
func TestStepWhereEnabled(t *testing.T) {
	random := rand.New(rand.NewSource(1))
	for range 40 {
		e := made(t, nodes(t, everyKind), twoLists(), 1+random.Intn(16))
		for i := range 3000 {
			enabled := e.Enabled()
			if enabled < 0 || enabled != e.Enabled() {
				t.Fatalf("Enabled is %d, then %d", enabled, e.Enabled())
			}
			if ok := e.Step(random.Intn(1000)); ok != (enabled > 0) {
				t.Fatalf("Step is %t where Enabled was %d", ok, enabled)
			}
			if i%300 == 299 {
				e.Trigger()
			}
		}
	}
}

// path does steps by picks, and tells all that is told behind each.
func path(e *engine.Engine, picks []int) []answers {
	var l []answers
	for i, pick := range picks {
		e.Step(pick)
		if i == len(picks)/2 {
			e.Trigger()
		}
		l = append(l, told(e))
	}
	return l
}

// A pick is taken modulo how many there are: any number picks what another one
// does that differs by a multiple of that.
func TestPicksModulo(t *testing.T) {
	random := rand.New(rand.NewSource(2))
	for range 20 {
		workers := 1 + random.Intn(16)
		small, e := []int{}, made(t, nodes(t, everyKind), twoLists(), workers)
		var great []int
		for i := range 120 {
			n := max(e.Enabled(), 1)
			pick := random.Intn(n)
			small = append(small, pick)
			low, high := least/n+2, greatest/n-2
			factors := []int{1, -1, 7, -1000, low, high}
			great = append(great, pick+n*factors[random.Intn(len(factors))])
			e.Step(pick)
			if i == 60 {
				e.Trigger()
			}
		}
		one := path(made(t, nodes(t, everyKind), twoLists(), workers), small)
		other := path(made(t, nodes(t, everyKind), twoLists(), workers), great)
		if !reflect.DeepEqual(one, other) {
			t.Errorf("picks %v and %v do not come to the same by %d workers", small, great, workers)
		}
	}
}

// What is done hangs on the calls alone.
func TestSameCallsSameAnswers(t *testing.T) {
	random := rand.New(rand.NewSource(3))
	picks := make([]int, 400)
	for i := range picks {
		picks[i] = random.Int() - random.Int()
	}
	for _, workers := range []int{1, 3, 16} {
		one := path(made(t, nodes(t, everyKind), twoLists(), workers), picks)
		for range 5 {
			if !reflect.DeepEqual(path(made(t, nodes(t, everyKind), twoLists(), workers), picks), one) {
				t.Errorf("the same picks come to something else by %d workers", workers)
			}
		}
	}
}

func TestPicksOfAnyNumber(t *testing.T) {
	l, data := nodes(t, everyKind), twoLists()
	for _, pick := range []int{0, 1, -1, 2, -2, 63, -64, 1 << 32, -1 << 32, least, least + 1, greatest, greatest - 1} {
		e := made(t, l, data, 4)
		many := 0
		for e.Enabled() > 0 {
			if !e.Step(pick) {
				t.Fatalf("Step(%d) is false, and Enabled %d", pick, e.Enabled())
			}
			many++
		}
		if many < 73 {
			t.Errorf("only %d steps were done", many)
		}
		wantEnds(t, e, all(t, l, data))
	}
}

// Other picks do other steps: of eight splits with a record each, and of one
// with all of them.
func TestPicksDiffer(t *testing.T) {
	l := nodes(t, "source 8\nsink 0\n")
	data := [][]api.Record{inTurn(8)}
	seen := map[string]int{}
	many := made(t, l, data, 1).Enabled()
	for pick := range many {
		e := made(t, l, data, 1)
		e.Step(pick)
		checkpoint(t, e, 1)
		for _, line := range e.Written()[0] {
			seen[line.Key]++
		}
	}
	if many != 8 || len(seen) != 8 {
		t.Errorf("by %d picks just these were handed over first: %v", many, seen)
	}
	if many := made(t, nodes(t, "source 1\nsink 0\n"), data, 1).Enabled(); many != 1 {
		t.Errorf("of one split there are %d steps", many)
	}
}

// A step hands over one record of a Source at most, and none back.
func TestStepHandsOverOne(t *testing.T) {
	random := rand.New(rand.NewSource(4))
	for range 30 {
		e := made(t, nodes(t, everyKind), twoLists(), 1+random.Intn(16))
		handed := 0
		for i := 0; ; i++ {
			if i%50 == 20 {
				e.Trigger()
			}
			before := e.Lag()
			if !e.Step(random.Int()) {
				break
			}
			if lag := e.Lag(); lag != before && lag != before-1 {
				t.Fatalf("a step takes Lag from %d to %d", before, lag)
			}
			handed += before - e.Lag()
		}
		if handed != 73 {
			t.Errorf("%d were handed over", handed)
		}
	}
}

// At its beginning there is a step just if a Source has a record.
func TestStepAtTheBeginning(t *testing.T) {
	l := nodes(t, "source 3\nsource 8\nsource 1\nunion 0 1\nfold 3 s+n\nsink 4\n") // the third hands to none
	for lists := range 8 {
		data := make([][]api.Record, 3)
		for i := range data {
			if lists>>i&1 == 1 {
				data[i] = inTurn(i + 1)
			}
		}
		for workers := 1; workers <= 16; workers++ {
			e := made(t, l, data, workers)
			if (e.Enabled() > 0) != (lists > 0) {
				t.Errorf("Enabled is %d at the beginning of %v", e.Enabled(), data)
			}
			if ok := e.Step(0); ok != (lists > 0) {
				t.Errorf("Step is %t at the beginning of %v", ok, data)
			}
			wantCrashed(t, e, workers)
			if (e.Enabled() > 0) != (lists > 0) {
				t.Errorf("Enabled is %d behind a crash to the beginning of %v", e.Enabled(), data)
			}
			wantEnds(t, e, all(t, l, data))
		}
	}
}
