package sink_test

import (
	"testing"

	"weirgate/sink"
)

// T1, Commit

func TestCommit(t *testing.T) {
	for _, c := range []struct {
		id, many int
		written  []int
		sealed   []int
	}{
		{1, 0, []int{1, 2}, []int{5, 6, 9}}, // below all
		{3, 0, []int{1, 2}, []int{5, 6, 9}}, // written already
		{4, 0, []int{1, 2}, []int{5, 6, 9}},
		{5, 3, []int{1, 2, 3, 4, 5}, []int{6, 9}},
		{6, 3, []int{1, 2, 3, 4, 5}, []int{9}},
		{7, 3, []int{1, 2, 3, 4, 5}, []int{9}}, // between two
		{8, 3, []int{1, 2, 3, 4, 5}, []int{9}},
		{9, 4, []int{1, 2, 3, 4, 5, 6}, nil},
		{10, 4, []int{1, 2, 3, 4, 5, 6}, nil}, // above all
		{1 << 32, 4, []int{1, 2, 3, 4, 5, 6}, nil},
		{greatest, 4, []int{1, 2, 3, 4, 5, 6}, nil},
	} {
		s := some(t)
		commit(t, s, c.id, c.many)
		wantWritten(t, s, c.written...)
		wantSealed(t, s, c.sealed...)

		// once more it writes nothing, and the open one is still open
		for range 2 {
			commit(t, s, c.id, 0)
		}
		wantWritten(t, s, c.written...)
		wantSealed(t, s, c.sealed...)
		abort(t, s, 8-len(c.written))
		wantWritten(t, s, c.written...)
	}
}

func TestCommitOfNoId(t *testing.T) {
	for _, id := range noIds() {
		noCommit(t, sink.New(), id)
		s := some(t)
		noCommit(t, s, id)
		wantSome(t, s)
	}
}

// One that is below those that were committed writes nothing, and takes nothing
// back.
func TestCommitOfLesser(t *testing.T) {
	s := some(t)
	commit(t, s, 7, 3)
	for id := 7; id >= 1; id-- {
		commit(t, s, id, 0)
	}
	wantWritten(t, s, 1, 2, 3, 4, 5)
	wantSealed(t, s, 9)
}

// The open one is not written, whatever its id will be.
func TestCommitOfTheOpenOne(t *testing.T) {
	s := sink.New()
	add(t, s, 1, 2)
	for _, id := range []int{1, 2, greatest} {
		commit(t, s, id, 0)
		wantWritten(t, s)
	}
	// a Commit holds for what is sealed by then alone
	seal(t, s, 1)
	wantWritten(t, s)
	wantSealed(t, s, 1)
	commit(t, s, 1, 2)
	wantWritten(t, s, 1, 2)
}

// How many is told of this Commit alone.
func TestCommitTellsHowMany(t *testing.T) {
	s := sink.New()
	written := 0
	for id := 1; id <= 40; id++ {
		seal(t, s, id, span(written, written+id)...)
		commit(t, s, id, id)
		written += id
		wantWritten(t, s, span(0, written)...)
	}
}

func TestCommitOfManyAtOnce(t *testing.T) {
	s := sink.New()
	for id := 1; id <= 300; id++ {
		seal(t, s, 3*id, span(400*(id-1), 400*id)...)
	}
	commit(t, s, 599, 400*199)
	wantWritten(t, s, span(0, 400*199)...)
	commit(t, s, 600, 400)
	commit(t, s, 602, 0)
	commit(t, s, greatest, 400*100)
	wantWritten(t, s, span(0, 400*300)...)
	wantSealed(t, s)
}

// Records that are the same are written as often as they were added.
func TestCommitOfSameRecords(t *testing.T) {
	s := sink.New()
	seal(t, s, 1, 5, 5)
	seal(t, s, 2, 5)
	add(t, s, 5)
	commit(t, s, 2, 3)
	wantWritten(t, s, 5, 5, 5)
	seal(t, s, 3)
	commit(t, s, 3, 1)
	wantWritten(t, s, 5, 5, 5, 5)
}
