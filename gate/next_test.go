package gate_test

import "testing"

// A2, Next

func TestNextByTurns(t *testing.T) {
	g := made(t, 3)
	push(t, g, 2, 20, 21)
	push(t, g, 0, 0, 1, 2)
	push(t, g, 1, 10)
	wantNext(t, g, 0, 0)
	wantNext(t, g, 10, 1)
	wantNext(t, g, 20, 2)
	wantNext(t, g, 1, 0)
	wantNext(t, g, 21, 2)
	wantNext(t, g, 2, 0)
	wantNoNext(t, g)
}

// It goes on behind the one that was taken from last, not behind the one that
// was looked at last, nor behind what came last.
func TestNextBehindTheLast(t *testing.T) {
	g := made(t, 4)
	push(t, g, 2, 20)
	wantNext(t, g, 20, 2)
	push(t, g, 0, 1, 2)
	push(t, g, 3, 30, 31)
	push(t, g, 2, 21)
	wantNext(t, g, 30, 3)
	wantNext(t, g, 1, 0)
	wantNext(t, g, 21, 2)
	wantNext(t, g, 31, 3)
	wantNext(t, g, 2, 0)
}

// That there was none does not move the turn.
func TestNextBehindNone(t *testing.T) {
	g := made(t, 3)
	wantNoNext(t, g)
	wantNoNext(t, g)
	push(t, g, 1, 10)
	push(t, g, 0, 1)
	wantNext(t, g, 1, 0)
	wantNext(t, g, 10, 1)
	wantNoNext(t, g)
	push(t, g, 1, 11)
	push(t, g, 0, 2)
	push(t, g, 2, 20)
	wantNext(t, g, 20, 2)
	wantNext(t, g, 2, 0)
	wantNext(t, g, 11, 1)
}

func TestNextOfOneInput(t *testing.T) {
	g := made(t, 1)
	push(t, g, 0, 3, 1, 2, 2)
	for _, num := range []int{3, 1, 2, 2} {
		wantNext(t, g, num, 0)
	}
	wantNoNext(t, g)
	push(t, g, 0, 9)
	wantNext(t, g, 9, 0)
}

// The round begins again with 0 behind the last input.
func TestNextOfTheLastInput(t *testing.T) {
	g := made(t, 64)
	push(t, g, 63, 1, 2)
	push(t, g, 0, 3)
	wantNext(t, g, 3, 0)
	wantNext(t, g, 1, 63)
	push(t, g, 62, 4)
	push(t, g, 0, 5)
	wantNext(t, g, 5, 0)
	wantNext(t, g, 4, 62)
	wantNext(t, g, 2, 63)
	wantNoNext(t, g)
}

func TestNextPassesOverBlocked(t *testing.T) {
	g := made(t, 3)
	bar(t, g, 0, 1)
	push(t, g, 0, 1)
	push(t, g, 1, 10, 11)
	bar(t, g, 1, 1)
	push(t, g, 1, 12)
	push(t, g, 2, 20)
	wantBlocked(t, g, "b--")
	wantNext(t, g, 10, 1)
	wantNext(t, g, 20, 2)
	wantNext(t, g, 11, 1)
	wantBlocked(t, g, "bb-")
	wantNoNext(t, g)
	push(t, g, 2, 21)
	wantNext(t, g, 21, 2)
	bar(t, g, 2, 1)
	wantNoNext(t, g)
	wantWaiting(t, g, 5)
	wantBound(t, g, 1)
	wantNext(t, g, 1, 0)
	wantNext(t, g, 12, 1)
	wantNoNext(t, g)
}

// Bound hands on nothing, so the turn is where it was.
func TestNextBehindBound(t *testing.T) {
	g := made(t, 3)
	push(t, g, 0, 1)
	for input := range 3 {
		bar(t, g, input, 1)
		push(t, g, input, 100+input)
	}
	wantNext(t, g, 1, 0)
	wantBound(t, g, 1)
	wantNext(t, g, 101, 1)
	wantNext(t, g, 102, 2)
	wantNext(t, g, 100, 0)
}

// What is asked does not move the turn, nor does what is refused.
func TestNextBehindOtherCalls(t *testing.T) {
	g := made(t, 2)
	push(t, g, 0, 1, 2)
	push(t, g, 1, 10)
	wantNext(t, g, 1, 0)
	wantBlocked(t, g, "--")
	wantWaiting(t, g, 2)
	wantNoBound(t, g)
	if g.Push(2, record(7)) == nil || g.Bar(2, 7) == nil || g.Bar(0, 0) == nil {
		t.Error("it was not refused")
	}
	wantNext(t, g, 10, 1)
	wantNext(t, g, 2, 0)
}
