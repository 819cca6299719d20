package lsm_test

import (
	"bytes"
	"slices"
	"testing"

	"weirgate/api"
	"weirgate/lsm"
	"weirgate/plain"
)

// L2, New, Fresh, Flush, Compact and Tables

func TestNewOfLimits(t *testing.T) {
	for _, limit := range []int{1, 2, 399, 400} {
		s := made(t, limit)
		wantAll(t, s)
		wantTables(t, s, 0)
		opened(t, limit)
	}
	for _, limit := range []int{0, -1, 401, 402, -400, 1 << 32, 1<<32 + 1, 1<<63 - 1, -1 << 63} {
		if s, err := lsm.New(limit); s != nil || plain.Told(err) != api.ErrRange {
			t.Errorf("New(%d) is %v, %v, want nothing, ErrRange", limit, s, err)
		}
		wantUnopened(t, api.ErrRange, limit)
	}
}

func TestFreshOnce(t *testing.T) {
	s := made(t, 400)
	for i, e := range list(put("b", "1"), put("a", "2"), gone("c"), put("", "")) {
		does(t, s, e)
		wantTables(t, s, i+1)
	}
	for _, e := range list(put("b", "1"), put("b", "3"), gone("b"), gone("b"), gone("c"), put("c", "4"), gone(""), put("a", "2")) {
		does(t, s, e)
		wantTables(t, s, 4)
	}
	flush(t, s)
	wantTables(t, s, 0, list(gone(""), put("a", "2"), gone("b"), put("c", "4")))
	// what is flushed, and put as it was, is fresh again
	does(t, s, put("a", "2"), gone("b"), gone("never"))
	wantTables(t, s, 3, list(gone(""), put("a", "2"), gone("b"), put("c", "4")))
}

func TestFlush(t *testing.T) {
	s := made(t, 400)
	flush(t, s)
	wantTables(t, s, 0)
	does(t, s, put("a", "1"), gone("b"))
	flush(t, s)
	one := list(put("a", "1"), gone("b"))
	wantTables(t, s, 0, one)
	flush(t, s)
	flush(t, s)
	wantTables(t, s, 0, one)
	does(t, s, put("b", ""))
	flush(t, s)
	two := list(put("b", ""))
	wantTables(t, s, 0, two, one)
	does(t, s, gone("zz"))
	flush(t, s)
	wantTables(t, s, 0, list(gone("zz")), two, one)
	wantAll(t, s, put("a", "1"), put("b", ""))
}

func TestFlushOfMost(t *testing.T) {
	s := made(t, 400)
	does(t, s, many(0, 399)...)
	wantTables(t, s, 399)
	flush(t, s)
	wantTables(t, s, 0, many(0, 399))
	does(t, s, away(0, 400)...)
	wantTables(t, s, 0, away(0, 400), many(0, 399))
}

// What is flushed has what was last said of a key, and no other keys.
func TestFlushHasTheLast(t *testing.T) {
	s := opened(t, 3, built(t, put("a", "old"), put("b", "old")))
	does(t, s, put("a", "1"), put("a", "2"), gone("c"), put("c", "3"), put("d", "4"))
	wantTables(t, s, 0, list(put("a", "2"), put("c", "3"), put("d", "4")), list(put("a", "old"), put("b", "old")))
}

func TestLimit(t *testing.T) {
	one := made(t, 1)
	does(t, one, put("a", "1"), put("a", "1"), gone("b"), gone("b"))
	wantTables(t, one, 0, list(gone("b")), list(gone("b")), list(put("a", "1")), list(put("a", "1")))

	three := made(t, 3)
	does(t, three, put("b", "1"), put("b", "2"), gone("b"), put("a", "1"))
	wantTables(t, three, 2)
	does(t, three, put("a", "3"))
	wantTables(t, three, 2)
	does(t, three, gone("z"))
	flushed := list(put("a", "3"), gone("b"), gone("z"))
	wantTables(t, three, 0, flushed)
	does(t, three, put("b", "4"), put("c", "4"))
	wantTables(t, three, 2, flushed)
	// refused, so not fresh
	wantTold(t, three.Put("d", long(121)), api.ErrRange)
	wantTold(t, three.Del(long(121)), api.ErrRange)
	wantTables(t, three, 2, flushed)
	does(t, three, put("z", "4"))
	wantTables(t, three, 0, list(put("b", "4"), put("c", "4"), put("z", "4")), flushed)
	wantAll(t, three, put("a", "3"), put("b", "4"), put("c", "4"), put("z", "4"))

	// a Flush ahead of the limit begins the count anew
	does(t, three, put("a", "5"), put("b", "5"))
	flush(t, three)
	does(t, three, put("c", "5"), put("a", "6"))
	if three.Fresh() != 2 || len(three.Tables()) != 3 {
		t.Errorf("%d are fresh, and %d tables", three.Fresh(), len(three.Tables()))
	}
}

func TestEachLimit(t *testing.T) {
	for limit := 1; limit <= 400; limit += 19 {
		s := made(t, limit)
		var want [][]api.Entry
		for i := range 400 {
			does(t, s, many(i, 1)...)
			if (i+1)%limit == 0 {
				want = slices.Insert(want, 0, many(i+1-limit, limit))
			}
			if s.Fresh() != (i+1)%limit {
				t.Fatalf("limit %d: %d are fresh behind %d", limit, s.Fresh(), i+1)
			}
		}
		wantTables(t, s, 400%limit, want...)
	}
}

func TestFullIsNotFresh(t *testing.T) {
	s := made(t, 300)
	does(t, s, many(0, 400)...)
	wantTables(t, s, 100, many(0, 300))
	for range 300 {
		wantTold(t, s.Put("a", "x"), api.ErrFull)
		wantTold(t, s.Del("b"), api.ErrFull)
	}
	wantTables(t, s, 100, many(0, 300))
}

func TestCompact(t *testing.T) {
	s := spread(t)
	all := s.Scan("", "")
	compact(t, s)
	wantTables(t, s, 0, all)
	wantAll(t, s, all...)
	compact(t, s)
	wantTables(t, s, 0, all)
	does(t, s, gone("a"), gone("zz"))
	compact(t, s)
	wantTables(t, s, 0, all[1:])
	wantAll(t, s, all[1:]...)
	wantNone(t, s, "a", "zz")
}

func TestCompactOfNothingLeft(t *testing.T) {
	s := made(t, 4)
	compact(t, s)
	wantTables(t, s, 0)
	does(t, s, gone("a"))
	compact(t, s)
	wantTables(t, s, 0)
	does(t, s, put("a", "1"), put("b", "2"), gone("a"))
	flush(t, s)
	does(t, s, gone("b"))
	compact(t, s)
	wantTables(t, s, 0)
	wantAll(t, s)
	wantNone(t, s, "a", "b")
	flush(t, s)
	wantTables(t, s, 0)

	for _, s := range []*lsm.Store{opened(t, 1, built(t)), opened(t, 1, built(t, gone("a")), built(t), built(t, put("a", "1")))} {
		compact(t, s)
		wantTables(t, s, 0)
		wantAll(t, s)
		does(t, s, put("a", "2"))
		wantAll(t, s, put("a", "2"))
	}
}

// Behind Compact keys are fresh by what is done, as ahead of it.
func TestFreshBehindCompact(t *testing.T) {
	s := made(t, 3)
	does(t, s, put("a", "1"), put("b", "2"))
	compact(t, s)
	kept := list(put("a", "1"), put("b", "2"))
	wantTables(t, s, 0, kept)
	does(t, s, put("c", "3"), gone("a"))
	wantTables(t, s, 2, kept)
	does(t, s, gone("d"))
	wantTables(t, s, 0, list(gone("a"), put("c", "3"), gone("d")), kept)
	wantAll(t, s, put("b", "2"), put("c", "3"))
}

func TestCompactOfMost(t *testing.T) {
	for _, limit := range limits {
		s := made(t, limit)
		does(t, s, many(0, 400)...)
		compact(t, s)
		wantTables(t, s, 0, many(0, 400))
		does(t, s, away(1, 399)...)
		compact(t, s)
		wantTables(t, s, 0, many(0, 1))
	}
}

// What is given out can be changed, and what is given out later is not it.
func TestTablesAreFresh(t *testing.T) {
	s := spread(t)
	all, first, second, third := s.Scan("", ""), s.Tables(), s.Tables(), s.Tables()
	for i, b := range first {
		spoil(b)
		first[i] = nil
	}
	clear(second[:cap(second)])
	wantSame(t, s, 4, third)
	wantAll(t, s, all...)
	compact(t, s)
	wantTables(t, s, 0, all)
	does(t, s, put("a", "x"))
	flush(t, s)
	wantTables(t, s, 0, list(put("a", "x")), all)
	// no two of one answer share memory
	got := s.Tables()
	have := bytes.Clone(got[0])
	spoil(got[1])
	if !bytes.Equal(got[0], have) {
		t.Errorf("the table became %v, was %v", got[0], have)
	}
	wantTables(t, s, 0, list(put("a", "x")), all)
}

// spoil overwrites bytes, and what room there is behind them.
func spoil(b []byte) {
	for i := range b[:cap(b)] {
		b[:cap(b)][i] = 99
	}
}

func spoilt(many int) []byte { return bytes.Repeat([]byte{99}, many) }

// Two Stores have nothing in common.
func TestStoresAreApart(t *testing.T) {
	one, two := made(t, 2), made(t, 2)
	does(t, one, put("a", "1"))
	does(t, two, put("a", "2"), put("b", "2"))
	wantAll(t, one, put("a", "1"))
	wantTables(t, one, 1)
	wantAll(t, two, put("a", "2"), put("b", "2"))
	three := opened(t, 2, two.Tables()...)
	does(t, three, gone("a"), put("c", "3"))
	compact(t, three)
	wantAll(t, two, put("a", "2"), put("b", "2"))
	wantTables(t, two, 0, list(put("a", "2"), put("b", "2")))
}
