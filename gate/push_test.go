package gate_test

import (
	"strings"
	"testing"

	"weirgate/api"
	"weirgate/gate"
	"weirgate/plain"
)

// A1, New

func TestNewOfNone(t *testing.T) {
	for _, inputs := range []int{0, 65, -1, 66, 128, -64, 1<<32 + 1, 1<<62 + 1, least, least + 1, greatest, greatest - 1} {
		if g, err := gate.New(inputs); g != nil || plain.Told(err) != api.ErrRange {
			t.Errorf("New(%d) is %v, %v, want nothing, ErrRange", inputs, g, err)
		}
	}
}

func TestNewHasNothing(t *testing.T) {
	for inputs := 1; inputs <= 64; inputs++ {
		g := made(t, inputs)
		wantNoNext(t, g)
		wantNoBound(t, g)
		wantWaiting(t, g, 0)
		wantBlocked(t, g, strings.Repeat("-", inputs))
	}
}

// Each of the inputs is one, the last one too.
func TestNewHasAllInputs(t *testing.T) {
	for _, inputs := range []int{1, 2, 63, 64} {
		g := made(t, inputs)
		for input := range inputs {
			push(t, g, input, input)
			bar(t, g, input, 1)
		}
		wantWaiting(t, g, 2*inputs)
		for input := range inputs {
			wantNext(t, g, input, input)
		}
		wantBlocked(t, g, strings.Repeat("b", inputs))
		wantBound(t, g, 1)
		wantWaiting(t, g, 0)
	}
}

func TestGatesAreApart(t *testing.T) {
	one, other := made(t, 2), made(t, 2)
	push(t, one, 0, 7)
	bar(t, one, 1, 5)
	wantWaiting(t, other, 0)
	wantBlocked(t, other, "--")
	wantNoNext(t, other)
	bar(t, other, 1, 1)
	push(t, other, 1, 3)
	wantNext(t, one, 7, 0)
	wantWaiting(t, other, 2)
}

// A1, Push

func TestPushAtNoInput(t *testing.T) {
	for _, inputs := range []int{1, 2, 40, 64} {
		g := made(t, inputs)
		push(t, g, inputs-1, 1)
		for _, input := range noInputs(inputs) {
			wantTold(t, g.Push(input, record(2)), api.ErrRange)
		}
		wantWaiting(t, g, 1)
		wantNext(t, g, 1, inputs-1)
		wantNoNext(t, g)
	}
}

// Any record may wait, also one that no other chapter would take.
func TestPushOfAnyRecord(t *testing.T) {
	all := []api.Record{
		{},
		{Key: "a", Num: 1, Time: 2},
		{Key: strings.Repeat("\xff", 300), Num: least, Time: greatest},
		{Key: "\x00\n ä", Num: greatest, Time: least},
		{Num: -1},
		{Time: -1},
	}
	g := made(t, 1)
	for _, r := range all {
		wantTold(t, g.Push(0, r), api.OK)
	}
	for _, r := range all {
		wantBlocked(t, g, "-")
		if got, input, ok := g.Next(); got != r || input != 0 || !ok {
			t.Errorf("Next is %v, %d, %t, want %v", got, input, ok, r)
		}
	}
	wantNoNext(t, g)
}

func TestPushOfMost(t *testing.T) {
	g := made(t, 3)
	fill(t, g, 1, 400, 0)
	wantTold(t, g.Push(1, record(-1)), api.ErrFull)
	wantWaiting(t, g, 400)
	push(t, g, 0, 1000)
	fill(t, g, 2, 400, 0)
	wantTold(t, g.Push(2, record(-1)), api.ErrFull)
	wantTold(t, g.Push(1, record(-1)), api.ErrFull)
	wantWaiting(t, g, 801)
	wantNext(t, g, 1000, 0)
	for num := range 400 {
		wantNext(t, g, num, 1)
		wantNext(t, g, num, 2)
	}
	wantNoNext(t, g)
}

// Barriers that wait count too, those that went do not.
func TestPushBehindBarriers(t *testing.T) {
	g := made(t, 1)
	for id := 1; id <= 200; id++ {
		bar(t, g, 0, id)
		push(t, g, 0, id)
	}
	wantTold(t, g.Push(0, record(-1)), api.ErrFull)
	wantBound(t, g, 1)
	push(t, g, 0, 201)
	wantTold(t, g.Push(0, record(-1)), api.ErrFull)
	wantNext(t, g, 1, 0)
	push(t, g, 0, 202)
	wantTold(t, g.Push(0, record(-1)), api.ErrFull)
	wantWaiting(t, g, 400)
	for id := 2; id <= 200; id++ {
		wantBound(t, g, id)
		wantNext(t, g, id, 0)
	}
	wantNext(t, g, 201, 0)
	wantNext(t, g, 202, 0)
	wantWaiting(t, g, 0)
}

func TestPushWhereOthersAreFull(t *testing.T) {
	g := made(t, 64)
	for input := range 63 {
		fill(t, g, input, 400, 9)
	}
	push(t, g, 63, 5)
	bar(t, g, 63, 1)
	wantWaiting(t, g, 63*400+2)
	fill(t, g, 63, 398, 2)
	wantTold(t, g.Push(63, record(0)), api.ErrFull)
	wantWaiting(t, g, 64*400)
}

// A place in a full one is free again for each that goes, over and over.
func TestPushAndNextInTurn(t *testing.T) {
	g := made(t, 2)
	fill(t, g, 1, 400, 0)
	for num := range 3000 {
		wantTold(t, g.Push(1, record(-1)), api.ErrFull)
		wantNext(t, g, num, 1)
		push(t, g, 1, 400+num)
		wantWaiting(t, g, 400)
	}
}
