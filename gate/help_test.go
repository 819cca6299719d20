package gate_test

import (
	"testing"

	"weirgate/api"
	"weirgate/gate"
	"weirgate/plain"
)

const (
	least    = -1 << 63
	greatest = 1<<63 - 1
)

func record(num int) api.Record { return api.Record{Key: "k", Num: num, Time: -num} }

// made has so many inputs.
func made(t *testing.T, inputs int) *gate.Gate {
	t.Helper()
	g, err := gate.New(inputs)
	if g == nil || err != nil {
		t.Fatalf("New(%d) is %v, %v", inputs, g, err)
	}
	return g
}

// wantTold holds what a call answered.
func wantTold(t *testing.T, err error, want api.Errno) {
	t.Helper()
	if told := plain.Told(err); told != want || (err == nil) != (want == api.OK) {
		t.Errorf("the answer is %v, want %v", err, want)
	}
}

// push lets records of these numbers wait, which must go well.
func push(t *testing.T, g *gate.Gate, input int, nums ...int) {
	t.Helper()
	for _, num := range nums {
		wantTold(t, g.Push(input, record(num)), api.OK)
	}
}

// bar lets barriers of these ids wait, which must go well.
func bar(t *testing.T, g *gate.Gate, input int, ids ...int) {
	t.Helper()
	for _, id := range ids {
		wantTold(t, g.Bar(input, id), api.OK)
	}
}

// wantNext holds that the record of a number comes next, from an input.
func wantNext(t *testing.T, g *gate.Gate, num, input int) {
	t.Helper()
	r, from, ok := g.Next()
	if r != record(num) || from != input || !ok {
		t.Errorf("Next is %v, %d, %t, want %v of %d", r, from, ok, record(num), input)
	}
}

func wantNoNext(t *testing.T, g *gate.Gate) {
	t.Helper()
	if r, from, ok := g.Next(); r != (api.Record{}) || from != 0 || ok {
		t.Errorf("Next is %v, %d, %t, want none", r, from, ok)
	}
}

func wantBound(t *testing.T, g *gate.Gate, id int) {
	t.Helper()
	if got, ok := g.Bound(); got != id || !ok {
		t.Errorf("Bound is %d, %t, want %d", got, ok, id)
	}
}

func wantNoBound(t *testing.T, g *gate.Gate) {
	t.Helper()
	if got, ok := g.Bound(); got != 0 || ok {
		t.Errorf("Bound is %d, %t, want none", got, ok)
	}
}

func wantWaiting(t *testing.T, g *gate.Gate, want int) {
	t.Helper()
	if got := g.Waiting(); got != want {
		t.Errorf("%d wait, want %d", got, want)
	}
}

func wantReady(t *testing.T, g *gate.Gate, want bool) {
	t.Helper()
	if got := g.Ready(); got != want {
		t.Errorf("Ready is %t, want %t", got, want)
	}
}

// wantBlocked holds of each input whether it is blocked, by a sign each: `b` or
// `-`; and that there are no more inputs.
func wantBlocked(t *testing.T, g *gate.Gate, want string) {
	t.Helper()
	for input := range want {
		if b, err := g.Blocked(input); b != (want[input] == 'b') || err != nil {
			t.Errorf("Blocked(%d) is %t, %v, want %q", input, b, err, want)
		}
	}
	for _, input := range noInputs(len(want)) {
		if b, err := g.Blocked(input); b || plain.Told(err) != api.ErrRange {
			t.Errorf("Blocked(%d) is %t, %v, want ErrRange", input, b, err)
		}
	}
}

// noInputs are none of so many.
func noInputs(many int) []int {
	return []int{-1, many, many + 1, 64, 65, 256, 1 << 32, least, least + 1, greatest, -many}
}

// fill lets so many wait at an input, the last of them a barrier if its
// id is told.
func fill(t *testing.T, g *gate.Gate, input, many, id int) {
	t.Helper()
	if id > 0 {
		many--
	}
	for num := range many {
		push(t, g, input, num)
	}
	if id > 0 {
		bar(t, g, input, id)
	}
}
