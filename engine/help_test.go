package engine_test

import (
	"bytes"
	"reflect"
	"strings"
	"testing"

	"weirgate/api"
	"weirgate/den"
	"weirgate/engine"
	"weirgate/job"
	"weirgate/plain"
)

const (
	least    = -1 << 63
	greatest = 1<<63 - 1
	// byGroup has a key of one byte of each group, from 0 to 15.
	byGroup = "ajopmfklibghencd"
)

// everyKind is a job with nodes of all kinds, of two Sources, with two Sinks.
const everyKind = "source 3\nsource 8\nmap 0 n*2\nfilter 1 n%3\nunion 2 3 2 1\ncopy 4 2\nfold 5 s+n\nevery 5 3\nsub 6 n%4\nfirst 8\nsink 9\nsink 7\n"

func rec(key string, num, time int) api.Record { return api.Record{Key: key, Num: num, Time: time} }

// nodes are those of a job as it is printed.
func nodes(t *testing.T, text string) []api.Node {
	t.Helper()
	l, at, err := job.Parse(text)
	if err != nil {
		t.Fatalf("%q is wrong in line %d: %v", text, at, err)
	}
	return l
}

// inTurn are so many records, whose keys are all of byGroup in turn.
func inTurn(many int) []api.Record {
	var l []api.Record
	for i := range many {
		l = append(l, rec(byGroup[i%16:i%16+1], i+1, i))
	}
	return l
}

// twoLists are data of everyKind.
func twoLists() [][]api.Record { return [][]api.Record{inTurn(40), inTurn(33)} }

func made(t *testing.T, l []api.Node, data [][]api.Record, workers int) *engine.Engine {
	t.Helper()
	e, err := engine.New(l, data, workers)
	if e == nil || err != nil {
		t.Fatalf("New(%v, %v, %d) is %v, %v", l, data, workers, e, err)
	}
	return e
}

func restored(t *testing.T, l []api.Node, data [][]api.Record, picture []byte, workers int) *engine.Engine {
	t.Helper()
	e, err := engine.Restore(l, data, picture, workers)
	if e == nil || err != nil {
		t.Fatalf("Restore(%v, %v, %v, %d) is %v, %v", l, data, picture, workers, e, err)
	}
	return e
}

func all(t *testing.T, l []api.Node, data [][]api.Record) [][]api.Line {
	t.Helper()
	got, err := den.All(l, data)
	if err != nil {
		t.Fatalf("All(%v, %v) is %v", l, data, err)
	}
	return got
}

// wantTold holds what a call answered.
func wantTold(t *testing.T, err error, want api.Errno) {
	t.Helper()
	if told := plain.Told(err); told != want || (err == nil) != (want == api.OK) {
		t.Errorf("the answer is %v, want %v", err, want)
	}
}

func wantTriggered(t *testing.T, e *engine.Engine, want int) {
	t.Helper()
	if number, err := e.Trigger(); number != want || err != nil {
		t.Errorf("Trigger is %d, %v, want %d", number, err, want)
	}
}

func wantCrashed(t *testing.T, e *engine.Engine, workers int) {
	t.Helper()
	wantTold(t, e.Crash(workers), api.OK)
}

func wantDone(t *testing.T, e *engine.Engine, want ...int) {
	t.Helper()
	if got := e.Done(); len(got)+len(want) > 0 && !reflect.DeepEqual(got, want) {
		t.Errorf("Done is %v, want %v", got, want)
	}
}

func wantLag(t *testing.T, e *engine.Engine, want int) {
	t.Helper()
	if got := e.Lag(); got != want {
		t.Errorf("Lag is %d, want %d", got, want)
	}
}

func wantWritten(t *testing.T, e *engine.Engine, want [][]api.Line) {
	t.Helper()
	if got := e.Written(); !reflect.DeepEqual(got, want) {
		t.Errorf("Written is %v, want %v", got, want)
	}
}

func wantNothingWritten(t *testing.T, e *engine.Engine, sinks int) {
	t.Helper()
	wantWritten(t, e, make([][]api.Line, sinks))
}

// steps does so many, which must be there, with picks that go up.
func steps(t *testing.T, e *engine.Engine, many int) {
	t.Helper()
	for i := range many {
		if !e.Step(i * 7) {
			t.Fatalf("there is no step behind %d", i)
		}
	}
}

// stepsToEnd does steps till there is none, and tells how many.
func stepsToEnd(e *engine.Engine) int {
	many := 0
	for e.Step(many * 5) {
		many++
	}
	return many
}

// stepsToDone does steps till one more checkpoint is completed.
func stepsToDone(t *testing.T, e *engine.Engine) {
	t.Helper()
	before := len(e.Done())
	for i := 0; len(e.Done()) == before; i++ {
		if !e.Step(i * 3) {
			t.Fatalf("there is no step, and only %v is done", e.Done())
		}
	}
}

// checkpoint does a whole one, which must be of that number.
func checkpoint(t *testing.T, e *engine.Engine, number int) {
	t.Helper()
	wantTriggered(t, e, number)
	stepsToDone(t, e)
}

// wantEnds holds what R4 tells of the end: a last checkpoint completes all.
func wantEnds(t *testing.T, e *engine.Engine, want [][]api.Line) {
	t.Helper()
	stepsToEnd(e)
	number, err := e.Trigger()
	if err != nil {
		t.Errorf("Trigger is %d, %v where no step is", number, err)
	}
	stepsToEnd(e)
	if done := e.Done(); len(done) == 0 || done[len(done)-1] != number {
		t.Errorf("Done is %v, want %d as the last", done, number)
	}
	wantLag(t, e, 0)
	wantWritten(t, e, want)
}

// answers are all that an Engine tells without being changed.
type answers struct {
	enabled, lag, number int
	done                 []int
	written              [][]api.Line
	states               []api.Held
	picture              []byte
}

func told(e *engine.Engine) answers {
	picture, number := e.Picture()
	return answers{e.Enabled(), e.Lag(), number, e.Done(), e.Written(), e.States(), picture}
}

// wantAsTold holds that an Engine answers as it did.
func wantAsTold(t *testing.T, e *engine.Engine, want answers) {
	t.Helper()
	wantSame(t, told(e), want)
}

// fill writes over a picture and all that lies behind it in its memory.
func fill(b []byte) {
	b = b[:cap(b)]
	copy(b, bytes.Repeat([]byte{99}, len(b)))
}

// noWorkers are such numbers of workers that cannot be.
func noWorkers() []int {
	return []int{0, -1, 17, 18, 32, -16, 1<<32 + 1, least, least + 1, greatest, greatest - 1}
}

func long(many int) string { return strings.Repeat("k", many) }

func wantSame(t *testing.T, got, want answers) {
	t.Helper()
	if !reflect.DeepEqual(got, want) {
		t.Errorf("it tells %v, want %v", got, want)
	}
}
