package sink_test

import (
	"slices"
	"testing"
)

// T1, Written and Sealed: asking changes nothing, and what comes out is the
// caller's (P2)

func TestAskingChangesNothing(t *testing.T) {
	s := some(t)
	for range 5 {
		wantSealed(t, s, 5, 6, 9)
		wantWritten(t, s, 1, 2)
	}
	wantSome(t, s)
}

// What is given out can be changed, with what room there is behind it.
func TestGivenOutIsTheCallers(t *testing.T) {
	s := some(t)
	for range 2 {
		written, sealed := s.Written(), s.Sealed()
		for i := range written[:cap(written)] {
			written[:cap(written)][i] = record(-5)
		}
		for i := range sealed[:cap(sealed)] {
			sealed[:cap(sealed)][i] = 1
		}
	}
	wantSome(t, s)
}

// Nor does the Sink change what it gave out.
func TestGivenOutStays(t *testing.T) {
	s := some(t)
	written, sealed := s.Written(), s.Sealed()
	commit(t, s, 9, 4)
	abort(t, s, 2)
	seal(t, s, 11, 30)
	commit(t, s, 11, 1)
	if !slices.Equal(written, records(1, 2)) || !slices.Equal(sealed, []int{5, 6, 9}) {
		t.Errorf("what was given out became %v, %v", written, sealed)
	}
	// what the caller puts behind a list is not the Sink's
	longer := append(s.Written(), record(40))
	seal(t, s, 12, 31)
	commit(t, s, 12, 1)
	wantWritten(t, s, 1, 2, 3, 4, 5, 6, 30, 31)
	if !slices.Equal(longer, records(1, 2, 3, 4, 5, 6, 30, 40)) {
		t.Errorf("the caller's list became %v", longer)
	}
}

func TestGivenOutIsApart(t *testing.T) {
	s := some(t)
	one, two := s.Written(), s.Written()
	one[0] = record(-1)
	if two[0] != record(1) {
		t.Errorf("two lists share their memory: %v", two)
	}
	ids, others := s.Sealed(), s.Sealed()
	ids[0] = -1
	if others[0] != 5 {
		t.Errorf("two lists share their memory: %v", others)
	}
}
