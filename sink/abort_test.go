package sink_test

import (
	"testing"

	"weirgate/api"
	"weirgate/sink"
)

// T1, Abort

func TestAbort(t *testing.T) {
	s := some(t)
	abort(t, s, 6)
	wantWritten(t, s, 1, 2)
	wantSealed(t, s)
	abort(t, s, 0)
	for _, id := range []int{1, 5, 6, 9, greatest} {
		commit(t, s, id, 0)
	}
	wantWritten(t, s, 1, 2)
	for _, id := range []int{9, 8, 5, 3, 1} {
		wantTold(t, s.Seal(id), api.ErrOrder)
	}
	wantTold(t, s.Seal(0), api.ErrRange)
	seal(t, s, 10, 20)
	wantSealed(t, s, 10)
	commit(t, s, 10, 1)
	wantWritten(t, s, 1, 2, 20)
}

func TestAbortOfTheOpenOneAlone(t *testing.T) {
	s := sink.New()
	add(t, s, 1, 2, 3)
	abort(t, s, 3)
	// its id was none yet, so all are there
	seal(t, s, 1, 4)
	commit(t, s, 1, 1)
	wantWritten(t, s, 4)
}

func TestAbortOfSealedOnesAlone(t *testing.T) {
	s := sink.New()
	seal(t, s, 1, 1)
	seal(t, s, 2)
	seal(t, s, 3, 2, 3)
	abort(t, s, 3)
	wantSealed(t, s)
	commit(t, s, 3, 0)
	wantTold(t, s.Seal(3), api.ErrOrder)
	seal(t, s, 4)
	commit(t, s, 4, 0)
	wantWritten(t, s)
}

// What was committed stays, and does not count.
func TestAbortBehindCommit(t *testing.T) {
	for id, want := range map[int]int{4: 6, 5: 3, 8: 3, 9: 2, greatest: 2} {
		s := some(t)
		commit(t, s, id, 6-want)
		abort(t, s, want)
		wantWritten(t, s, span(1, 9-want)...)
		wantSealed(t, s)
		abort(t, s, 0)
		wantWritten(t, s, span(1, 9-want)...)
	}
}

func TestAbortOfMany(t *testing.T) {
	s := sink.New()
	for id := 1; id <= 100; id++ {
		seal(t, s, id, span(0, 400)...)
	}
	add(t, s, span(0, 399)...)
	commit(t, s, 1, 400)
	abort(t, s, 400*99+399)
	wantWritten(t, s, span(0, 400)...)
	wantTold(t, s.Seal(100), api.ErrOrder)
	seal(t, s, 101, 1)
	abort(t, s, 1)
}
