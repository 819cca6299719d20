package sink_test

import (
	"strings"
	"testing"

	"weirgate/api"
	"weirgate/sink"
)

// T1, New and Add

func TestNewHasWrittenNothing(t *testing.T) {
	s := sink.New()
	wantWritten(t, s)
	wantSealed(t, s)
	commit(t, s, 1, 0)
	commit(t, s, greatest, 0)
	abort(t, s, 0)
	wantWritten(t, s)
	wantSealed(t, s)
}

func TestSinksAreApart(t *testing.T) {
	one, two := sink.New(), sink.New()
	seal(t, one, 5, 1)
	add(t, one, 2)
	seal(t, two, 3, 7)
	commit(t, two, 9, 1)
	abort(t, two, 0)
	wantWritten(t, one)
	wantSealed(t, one, 5)
	commit(t, one, 5, 1)
	wantWritten(t, one, 1)
	wantWritten(t, two, 7)
	abort(t, one, 1)
}

// What is added is neither written nor waits till it is sealed, and committed.
func TestAdd(t *testing.T) {
	s := sink.New()
	add(t, s, 3, 1, 2)
	wantWritten(t, s)
	wantSealed(t, s)
	seal(t, s, 1)
	wantWritten(t, s)
	commit(t, s, 1, 3)
	wantWritten(t, s, 3, 1, 2)
}

// A record is taken whatever it is, also one that was there already.
func TestAddOfAnyRecord(t *testing.T) {
	all := []api.Record{
		{},
		{Key: "a"},
		{Key: "\x00\xff\n "},
		{Key: strings.Repeat("b", api.MaxKey)},
		{Key: strings.Repeat("b", api.MaxKey+1)},
		{Key: strings.Repeat("c", 100_000), Num: 1, Time: 2},
		{Num: least, Time: greatest},
		{Num: greatest, Time: least},
		{Key: "a", Time: -1},
		{Key: "a"},
		{},
	}
	s := sink.New()
	for _, r := range all {
		wantTold(t, s.Add(r), api.OK)
	}
	wantTold(t, s.Seal(1), api.OK)
	commit(t, s, 1, len(all))
	for i, r := range s.Written() {
		if r != all[i] {
			t.Errorf("record %d is %v, want %v", i, r, all[i])
		}
	}
}

func TestAddOfMost(t *testing.T) {
	s := sink.New()
	add(t, s, span(0, 400)...)
	for range 3 {
		wantTold(t, s.Add(record(400)), api.ErrFull)
		wantTold(t, s.Add(api.Record{}), api.ErrFull)
	}
	wantWritten(t, s)
	wantSealed(t, s)
	seal(t, s, 1)
	commit(t, s, 1, 400)
	wantWritten(t, s, span(0, 400)...)
}

// Each transaction has its own room, whatever waits and was written.
func TestAddBehindSeal(t *testing.T) {
	s := sink.New()
	for id := 1; id <= 5; id++ {
		add(t, s, span(400*id-400, 400*id)...)
		wantTold(t, s.Add(record(-1)), api.ErrFull)
		seal(t, s, id)
	}
	wantSealed(t, s, 1, 2, 3, 4, 5)
	commit(t, s, 3, 1200)
	add(t, s, span(2000, 2400)...)
	wantTold(t, s.Add(record(-1)), api.ErrFull)
	// a Commit, and a Seal that is refused, make no room
	commit(t, s, 5, 800)
	wantTold(t, s.Seal(5), api.ErrOrder)
	wantTold(t, s.Seal(0), api.ErrRange)
	wantTold(t, s.Add(record(-1)), api.ErrFull)
	seal(t, s, 6)
	add(t, s, 2400)
	seal(t, s, 7)
	commit(t, s, 7, 401)
	wantWritten(t, s, span(0, 2401)...)
}

func TestAddBehindAbort(t *testing.T) {
	s := sink.New()
	add(t, s, span(0, 400)...)
	abort(t, s, 400)
	add(t, s, span(400, 800)...)
	wantTold(t, s.Add(record(-1)), api.ErrFull)
	seal(t, s, 1)
	add(t, s, span(800, 1200)...)
	abort(t, s, 800)
	add(t, s, span(1200, 1600)...)
	wantTold(t, s.Add(record(-1)), api.ErrFull)
	seal(t, s, 2)
	commit(t, s, 2, 400)
	wantWritten(t, s, span(1200, 1600)...)
}
