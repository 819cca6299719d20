package gate_test

import (
	"math/rand"
	"testing"

	"weirgate/api"
)

// A2, Waiting and Blocked

func TestPlayOfManySteps(t *testing.T) {
	g := made(t, 3)
	for _, step := range []struct {
		do      func()
		waiting int
		blocked string
	}{
		{func() { wantNoNext(t, g) }, 0, "---"},
		{func() { push(t, g, 1, 10) }, 1, "---"},
		{func() { bar(t, g, 1, 2) }, 2, "---"},
		{func() { bar(t, g, 0, 1) }, 3, "b--"},
		{func() { push(t, g, 0, 1) }, 4, "b--"},
		{func() { wantTold(t, g.Bar(0, 1), api.ErrOrder) }, 4, "b--"},
		{func() { wantTold(t, g.Bar(0, 0), api.ErrRange) }, 4, "b--"},
		{func() { wantTold(t, g.Push(3, record(0)), api.ErrRange) }, 4, "b--"},
		{func() { wantNoBound(t, g) }, 4, "b--"},
		{func() { wantNext(t, g, 10, 1) }, 3, "bb-"},
		{func() { wantNoNext(t, g) }, 3, "bb-"},
		{func() { wantNoBound(t, g) }, 3, "bb-"},
		{func() { bar(t, g, 2, 2) }, 4, "bbb"},
		{func() { wantNoNext(t, g) }, 4, "bbb"},
		{func() { push(t, g, 2, 20) }, 5, "bbb"},
		{func() { wantBound(t, g, 1) }, 4, "-bb"},
		{func() { wantNoBound(t, g) }, 4, "-bb"},
		{func() { wantNext(t, g, 1, 0) }, 3, "-bb"},
		{func() { wantNoBound(t, g) }, 3, "-bb"},
		{func() { bar(t, g, 0, 2) }, 4, "bbb"},
		{func() { bar(t, g, 0, 3) }, 5, "bbb"},
		{func() { wantBound(t, g, 2) }, 2, "b--"},
		{func() { wantNext(t, g, 20, 2) }, 1, "b--"},
		{func() { wantNoNext(t, g) }, 1, "b--"},
		{func() { bar(t, g, 2, 4) }, 2, "b-b"},
		{func() { bar(t, g, 1, 3) }, 3, "bbb"},
		{func() { wantBound(t, g, 3) }, 1, "--b"},
		{func() { wantNoNext(t, g) }, 1, "--b"},
	} {
		step.do()
		wantWaiting(t, g, step.waiting)
		wantBlocked(t, g, step.blocked)
	}
}

// Ready tells whether Next or Bound would take something, and takes nothing.
func TestReady(t *testing.T) {
	g := made(t, 2)
	wantReady(t, g, false)
	bar(t, g, 0, 1)
	push(t, g, 0, 1)
	wantReady(t, g, false) // the record may not go, and the barrier waits for another
	push(t, g, 1, 10)
	wantReady(t, g, true)
	wantWaiting(t, g, 3)
	wantNext(t, g, 10, 1)
	wantReady(t, g, false)
	bar(t, g, 1, 2)
	wantReady(t, g, true)
	wantBound(t, g, 1)
	wantReady(t, g, true)
	wantNext(t, g, 1, 0)
	wantReady(t, g, false)
	bar(t, g, 0, 2)
	wantReady(t, g, true)
	wantBound(t, g, 2)
	wantReady(t, g, false)
}

// Nothing behind a barrier is handed on ahead of what was ahead of it elsewhere.
// A record has as its number the last id ahead of it at its input (0, if there
// is none): these never fall, over all inputs, and each is a bound that was
// told.
func TestNothingOvertakesABarrier(t *testing.T) {
	random := rand.New(rand.NewSource(11))
	handed, bounds := 0, 0
	for range 300 {
		inputs := 1 + random.Intn(5)
		g := made(t, inputs)
		last := make([]int, inputs)
		told, before := 0, 0
		for range 400 {
			input := random.Intn(inputs)
			switch random.Intn(8) {
			case 0:
				last[input] += 1 + random.Intn(2)
				bar(t, g, input, last[input])
			case 1, 2, 3:
				push(t, g, input, last[input])
			case 4:
				if id, ok := g.Bound(); ok {
					if id <= told {
						t.Fatalf("the bound %d came behind %d", id, told)
					}
					told = id
					bounds++
				}
			default:
				if r, _, ok := g.Next(); ok {
					if r.Num < before || r.Num > told {
						t.Fatalf("a record behind %d was handed on, behind one of %d and the bound %d", r.Num, before, told)
					}
					before = r.Num
					handed++
				}
			}
		}
	}
	if handed < 5000 || bounds < 1000 {
		t.Errorf("too few were thrown: %d, %d", handed, bounds)
	}
}
