package gate_test

import (
	"testing"

	"weirgate/api"
)

// A1, Bar

func TestBarAtNoInput(t *testing.T) {
	for _, inputs := range []int{1, 2, 40, 64} {
		g := made(t, inputs)
		for _, input := range noInputs(inputs) {
			wantTold(t, g.Bar(input, 1), api.ErrRange)
			wantTold(t, g.Bar(input, 0), api.ErrRange)
		}
		wantWaiting(t, g, 0)
		bar(t, g, inputs-1, 1)
	}
}

func TestBarOfNoId(t *testing.T) {
	g := made(t, 2)
	for _, id := range []int{0, -1, -2, least, least + 1, -greatest} {
		for input := range 2 {
			wantTold(t, g.Bar(input, id), api.ErrRange)
		}
	}
	wantWaiting(t, g, 0)
	wantBlocked(t, g, "--")
	push(t, g, 1, 4)
	bar(t, g, 0, 1)
	wantBlocked(t, g, "b-")
	wantNext(t, g, 4, 1)
}

func TestBarOfIds(t *testing.T) {
	for _, ids := range [][]int{{1}, {2}, {greatest}, {1, 2, 3}, {1, greatest}, {5, 6, 1 << 32, 1 << 33, greatest - 1, greatest}} {
		g := made(t, 1)
		bar(t, g, 0, ids...)
		wantWaiting(t, g, len(ids))
		for _, id := range ids {
			wantBlocked(t, g, "b")
			wantBound(t, g, id)
		}
		wantNoBound(t, g)
	}
}

func TestBarThatDoesNotRise(t *testing.T) {
	g := made(t, 2)
	bar(t, g, 0, 3)
	for _, id := range []int{3, 2, 1} {
		wantTold(t, g.Bar(0, id), api.ErrOrder)
	}
	bar(t, g, 0, 7)
	for _, id := range []int{7, 6, 4, 3, 1} {
		wantTold(t, g.Bar(0, id), api.ErrOrder)
	}
	wantWaiting(t, g, 2)
	bar(t, g, 0, greatest)
	wantTold(t, g.Bar(0, greatest), api.ErrOrder)
	wantWaiting(t, g, 3)
}

// Each input has its own ids.
func TestBarOfOtherInputs(t *testing.T) {
	g := made(t, 3)
	bar(t, g, 1, 5)
	bar(t, g, 0, 5)
	bar(t, g, 2, 1, 2)
	bar(t, g, 0, 6)
	wantTold(t, g.Bar(1, 5), api.ErrOrder)
	bar(t, g, 1, 6)
	bar(t, g, 2, 3)
	wantTold(t, g.Bar(2, 3), api.ErrOrder)
	wantTold(t, g.Bar(0, 5), api.ErrOrder)
	wantWaiting(t, g, 7)
}

// What went counts like what waits, and records between do not matter.
func TestBarBehindThoseThatWent(t *testing.T) {
	g := made(t, 2)
	bar(t, g, 0, 4)
	bar(t, g, 1, 9)
	wantBound(t, g, 4)
	wantWaiting(t, g, 1)
	for _, id := range []int{4, 3, 1} {
		wantTold(t, g.Bar(0, id), api.ErrOrder)
	}
	push(t, g, 0, 1)
	wantTold(t, g.Bar(0, 4), api.ErrOrder)
	wantNext(t, g, 1, 0)
	wantTold(t, g.Bar(0, 4), api.ErrOrder)
	bar(t, g, 0, 5)
	wantBound(t, g, 5)
	wantTold(t, g.Bar(0, 5), api.ErrOrder)
	bar(t, g, 0, 9)
	wantBound(t, g, 9)
	wantWaiting(t, g, 0)
	wantTold(t, g.Bar(0, 9), api.ErrOrder)
	wantTold(t, g.Bar(1, 9), api.ErrOrder)
	wantTold(t, g.Bar(1, 5), api.ErrOrder)
	bar(t, g, 1, 10)
}

// One that was refused did not come.
func TestBarBehindOneThatWasRefused(t *testing.T) {
	g := made(t, 2)
	fill(t, g, 0, 400, 0)
	wantTold(t, g.Bar(0, 50), api.ErrFull)
	wantTold(t, g.Bar(7, 60), api.ErrRange)
	wantNext(t, g, 0, 0)
	bar(t, g, 0, 2)
	wantTold(t, g.Bar(0, 2), api.ErrFull)
	wantNext(t, g, 1, 0)
	wantTold(t, g.Bar(0, 2), api.ErrOrder)
	wantTold(t, g.Bar(0, 1), api.ErrOrder)
	bar(t, g, 0, 3)
	wantTold(t, g.Bar(0, 0), api.ErrRange)
	bar(t, g, 1, 1)
}

func TestBarOfMost(t *testing.T) {
	g := made(t, 2)
	for id := 1; id <= 400; id++ {
		bar(t, g, 1, id)
	}
	wantTold(t, g.Bar(1, 401), api.ErrFull)
	wantTold(t, g.Push(1, record(1)), api.ErrFull)
	wantWaiting(t, g, 400)
	fill(t, g, 0, 400, 1)
	wantTold(t, g.Bar(0, 2), api.ErrFull)
	for num := range 399 {
		wantNext(t, g, num, 0)
	}
	wantBound(t, g, 1)
	bar(t, g, 0, 402)
	bar(t, g, 1, 401)
	wantTold(t, g.Bar(1, 402), api.ErrFull)
	for id := 2; id <= 401; id++ {
		wantBound(t, g, id)
	}
	wantNoBound(t, g)
	wantWaiting(t, g, 1)
}

// Where several apply, ErrRange is told ahead of ErrFull, and that ahead of
// ErrOrder.
func TestBarTellsTheFirst(t *testing.T) {
	g := made(t, 2)
	fill(t, g, 0, 400, 5)
	for _, c := range []struct {
		input, id int
		want      api.Errno
	}{
		{0, 0, api.ErrRange},
		{0, -5, api.ErrRange},
		{2, 5, api.ErrRange},
		{-1, 0, api.ErrRange},
		{0, 5, api.ErrFull},
		{0, 1, api.ErrFull},
		{0, 6, api.ErrFull},
	} {
		wantTold(t, g.Bar(c.input, c.id), c.want)
	}
	wantTold(t, g.Push(2, record(1)), api.ErrRange)
	wantTold(t, g.Push(0, record(1)), api.ErrFull)
	wantNext(t, g, 0, 0)
	wantTold(t, g.Bar(0, 5), api.ErrOrder)
	wantTold(t, g.Bar(0, 0), api.ErrRange)
	bar(t, g, 0, 6)
}
