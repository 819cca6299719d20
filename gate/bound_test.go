package gate_test

import (
	"strings"
	"testing"
)

// A2, Bound

func TestBoundWhileOneIsNotBlocked(t *testing.T) {
	g := made(t, 3)
	bar(t, g, 0, 1)
	wantNoBound(t, g)
	bar(t, g, 2, 1)
	wantBlocked(t, g, "b-b")
	wantNoBound(t, g)
	push(t, g, 1, 10)
	bar(t, g, 1, 1)
	wantBlocked(t, g, "b-b")
	wantNoBound(t, g)
	wantWaiting(t, g, 4)
	wantNext(t, g, 10, 1)
	wantBlocked(t, g, "bbb")
	wantBound(t, g, 1)
	wantBlocked(t, g, "---")
	wantWaiting(t, g, 0)
	wantNoBound(t, g)
}

// Whichever input is not blocked, be it that nothing waits there, or a record.
func TestBoundAsksAllInputs(t *testing.T) {
	for open := range 64 {
		g := made(t, 64)
		for input := range 64 {
			if input != open {
				bar(t, g, input, 3)
			}
		}
		wantNoBound(t, g)
		push(t, g, open, 1)
		wantNoBound(t, g)
		wantNext(t, g, 1, open)
		wantNoBound(t, g)
		bar(t, g, open, 3)
		wantBound(t, g, 3)
		wantWaiting(t, g, 0)
	}
}

func TestBoundOfOneId(t *testing.T) {
	g := made(t, 2)
	bar(t, g, 0, 8, 9)
	bar(t, g, 1, 8)
	wantBound(t, g, 8)
	wantBlocked(t, g, "b-")
	wantWaiting(t, g, 1)
	wantNoBound(t, g)
	bar(t, g, 1, 9)
	wantBound(t, g, 9)
	wantWaiting(t, g, 0)
}

// Only those with the least id go.
func TestBoundOfSeveralIds(t *testing.T) {
	g := made(t, 4)
	bar(t, g, 0, 5)
	bar(t, g, 1, 3, 5)
	bar(t, g, 2, 4)
	bar(t, g, 3, 3)
	push(t, g, 3, 30)
	wantBound(t, g, 3)
	wantBlocked(t, g, "bbb-")
	wantWaiting(t, g, 4)
	wantNoBound(t, g)
	wantNext(t, g, 30, 3)
	wantNoNext(t, g)
	wantNoBound(t, g)
	bar(t, g, 3, greatest)
	wantBound(t, g, 4)
	wantBlocked(t, g, "bb-b")
	wantNoBound(t, g)
	bar(t, g, 2, 5)
	wantBound(t, g, 5)
	wantBlocked(t, g, "---b")
	wantWaiting(t, g, 1)
}

// The least is told wherever it is.
func TestBoundOfTheLeastAnywhere(t *testing.T) {
	for at := range 5 {
		g := made(t, 5)
		for input := range 5 {
			id := 10 + (input-at+5)%5
			bar(t, g, input, id)
		}
		wantBound(t, g, 10)
		want := strings.Repeat("b", at) + "-" + strings.Repeat("b", 4-at)
		wantBlocked(t, g, want)
		wantWaiting(t, g, 4)
		wantNoBound(t, g)
	}
}

// Of each input one barrier goes at a time.
func TestBoundOfOneInput(t *testing.T) {
	g := made(t, 1)
	bar(t, g, 0, 1, 4, 6)
	push(t, g, 0, 7)
	wantBound(t, g, 1)
	wantBound(t, g, 4)
	wantNoNext(t, g)
	wantBlocked(t, g, "b")
	wantBound(t, g, 6)
	wantNoBound(t, g)
	wantNext(t, g, 7, 0)
	wantNoBound(t, g)
}

func TestBoundOfTheGreatestId(t *testing.T) {
	g := made(t, 2)
	bar(t, g, 0, greatest)
	bar(t, g, 1, greatest-1, greatest)
	wantBound(t, g, greatest-1)
	wantBound(t, g, greatest)
	wantNoBound(t, g)
}

// Behind it what waited behind the barrier may be taken, up to the next one.
func TestBoundLetsOn(t *testing.T) {
	g := made(t, 2)
	for input := range 2 {
		for id := 1; id <= 3; id++ {
			bar(t, g, input, id)
			push(t, g, input, id, id*10)
		}
	}
	for id := 1; id <= 3; id++ {
		wantNoNext(t, g)
		wantBlocked(t, g, "bb")
		wantBound(t, g, id)
		wantBlocked(t, g, "--")
		wantNoBound(t, g)
		wantNext(t, g, id, 0)
		wantNext(t, g, id, 1)
		wantNext(t, g, id*10, 0)
		wantBlocked(t, g, map[bool]string{true: "b-", false: "--"}[id < 3])
		wantNext(t, g, id*10, 1)
	}
	wantNoNext(t, g)
	wantWaiting(t, g, 0)
}
