package sink_test

import (
	"testing"

	"weirgate/api"
	"weirgate/sink"
)

// T1, Seal and Sealed

func TestSealOfIds(t *testing.T) {
	for _, ids := range [][]int{{1}, {2}, {400}, {greatest}, {1, 2, 3}, {1, greatest}, {3, 9, 1 << 32, 1<<32 + 1, greatest - 1, greatest}} {
		s := sink.New()
		for at, id := range ids {
			seal(t, s, id, at)
			wantSealed(t, s, ids[:at+1]...)
		}
		wantWritten(t, s)
		commit(t, s, greatest, len(ids))
		wantWritten(t, s, span(0, len(ids))...)
	}
}

func TestSealOfNoId(t *testing.T) {
	for _, id := range noIds() {
		s := sink.New()
		wantTold(t, s.Seal(id), api.ErrRange)
		add(t, s, 1)
		wantTold(t, s.Seal(id), api.ErrRange)
		wantSealed(t, s)
		seal(t, s, 1)
		commit(t, s, 1, 1)
		wantWritten(t, s, 1)

		// where it does not rise either, it is out of range first
		s = some(t)
		wantTold(t, s.Seal(id), api.ErrRange)
		wantSome(t, s)
	}
}

func TestSealThatDoesNotRise(t *testing.T) {
	for _, id := range []int{9, 8, 7, 6, 5, 4, 3, 2, 1} {
		s := some(t)
		wantTold(t, s.Seal(id), api.ErrOrder)
		wantSome(t, s)
	}
	s := sink.New()
	seal(t, s, greatest, 1)
	for _, id := range []int{greatest, greatest - 1, 1 << 32, 1} {
		wantTold(t, s.Seal(id), api.ErrOrder)
	}
	wantSealed(t, s, greatest)
}

// An id stays behind when its transaction is committed, or given up.
func TestSealBehindThoseThatWent(t *testing.T) {
	s := sink.New()
	seal(t, s, 4, 1)
	commit(t, s, 4, 1)
	for _, id := range []int{4, 3, 1} {
		wantTold(t, s.Seal(id), api.ErrOrder)
	}
	seal(t, s, 7, 2)
	abort(t, s, 1)
	for _, id := range []int{7, 6, 5, 4, 1} {
		wantTold(t, s.Seal(id), api.ErrOrder)
	}
	wantSealed(t, s)
	seal(t, s, 8, 3)
	wantSealed(t, s, 8)
	commit(t, s, 8, 1)
	wantWritten(t, s, 1, 3)
}

// Only ids that were sealed count: not those that were refused, nor those that
// were committed without a transaction.
func TestSealBehindOthers(t *testing.T) {
	s := sink.New()
	commit(t, s, 50, 0)
	seal(t, s, 3, 1)
	wantTold(t, s.Seal(2), api.ErrOrder)
	wantTold(t, s.Seal(least), api.ErrRange)
	commit(t, s, greatest, 1)
	seal(t, s, 4, 2)
	wantSealed(t, s, 4)
	commit(t, s, 4, 1)
	wantWritten(t, s, 1, 2)
}

func TestSealOfNoRecords(t *testing.T) {
	s := sink.New()
	seal(t, s, 1)
	seal(t, s, 2)
	seal(t, s, 3, 1)
	seal(t, s, 5)
	wantSealed(t, s, 1, 2, 3, 5)
	wantTold(t, s.Seal(5), api.ErrOrder)
	commit(t, s, 1, 0)
	wantSealed(t, s, 2, 3, 5)
	commit(t, s, 4, 1)
	wantSealed(t, s, 5)
	abort(t, s, 0)
	wantSealed(t, s)
	wantTold(t, s.Seal(5), api.ErrOrder)
	wantWritten(t, s, 1)
}

// With an error the open one stays open, with its records, and takes more.
func TestSealThatIsRefused(t *testing.T) {
	s := sink.New()
	seal(t, s, 3)
	add(t, s, 1, 2)
	wantTold(t, s.Seal(3), api.ErrOrder)
	wantTold(t, s.Seal(0), api.ErrRange)
	add(t, s, 3)
	commit(t, s, greatest, 0)
	wantTold(t, s.Seal(1), api.ErrOrder)
	wantSealed(t, s)
	seal(t, s, 4, 4)
	wantSealed(t, s, 4)
	commit(t, s, 4, 4)
	wantWritten(t, s, 1, 2, 3, 4)
	add(t, s, 5)
	wantTold(t, s.Seal(4), api.ErrOrder)
	abort(t, s, 1)
}

// There is no bound of how many wait.
func TestSealOfMany(t *testing.T) {
	s := sink.New()
	for id := 1; id <= 50_000; id++ {
		seal(t, s, id, id)
	}
	wantSealed(t, s, span(1, 50_001)...)
	for id := 1; id <= 50_000; id++ {
		commit(t, s, id, 1)
	}
	wantSealed(t, s)
	wantWritten(t, s, span(1, 50_001)...)
}
