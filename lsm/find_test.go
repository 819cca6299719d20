package lsm_test

import (
	"slices"
	"testing"

	"weirgate/api"
	"weirgate/lsm"
)

// L1, Get and Scan

// between are what may be done to a Store between two calls, without a change
// of what it says.
var between = []struct {
	name string
	do   func(t *testing.T, s *lsm.Store) *lsm.Store
}{
	{"nothing", func(t *testing.T, s *lsm.Store) *lsm.Store { return s }},
	{"Flush", func(t *testing.T, s *lsm.Store) *lsm.Store { flush(t, s); return s }},
	{"Compact", func(t *testing.T, s *lsm.Store) *lsm.Store { compact(t, s); return s }},
	{"Open", func(t *testing.T, s *lsm.Store) *lsm.Store { flush(t, s); return opened(t, 5, s.Tables()...) }},
}

func TestGet(t *testing.T) {
	for _, limit := range []int{1, 2, 3, 400} {
		for _, b := range between {
			s := made(t, limit)
			say := func(want ...api.Entry) {
				t.Helper()
				wantAll(t, s, want...)
				s = b.do(t, s)
				wantAll(t, s, want...)
			}
			say()
			wantNone(t, s, "", "a", "b", long(120), long(121), long(100_000))
			does(t, s, put("a", "1"))
			say(put("a", "1"))
			does(t, s, put("a", "2"))
			say(put("a", "2"))
			does(t, s, put("b", "x"), gone("a"))
			say(put("b", "x"))
			wantNone(t, s, "a", "", "aa", "c", "b\x00", "B")
			does(t, s, put("a", ""))
			say(put("a", ""), put("b", "x"))
			does(t, s, gone("a"), gone("b"), gone("c"))
			say()
			wantNone(t, s, "a", "b", "c")
			does(t, s, put("c", "3"), put("a", "4"))
			say(put("a", "4"), put("c", "3"))
			wantNone(t, s, "b")
			if t.Failed() {
				t.Fatalf("with limit %d, and %s between", limit, b.name)
			}
		}
	}
}

// spread has keys in three tables and among the fresh ones.
func spread(t *testing.T) *lsm.Store {
	s := made(t, 400)
	does(t, s, put("b", "old"), put("d", "1"), put("f", "old"), put("h", "old"))
	flush(t, s)
	does(t, s, put("f", "old"), gone("b"), put("a", "old"), gone("j"))
	flush(t, s)
	does(t, s, put("b", "2"), gone("h"), put("bb", ""), put("e", "gone"))
	flush(t, s)
	does(t, s, put("a", "3"), put("f", "4"), gone("e"), gone("g"))
	wantTables(t, s, 4,
		list(put("b", "2"), put("bb", ""), put("e", "gone"), gone("h")),
		list(put("a", "old"), gone("b"), put("f", "old"), gone("j")),
		list(put("b", "old"), put("d", "1"), put("f", "old"), put("h", "old")))
	return s
}

func TestScan(t *testing.T) {
	a, b, bb, d, f := put("a", "3"), put("b", "2"), put("bb", ""), put("d", "1"), put("f", "4")
	for _, between := range between {
		s := between.do(t, spread(t))
		wantAll(t, s, a, b, bb, d, f)
		// low and high that are keys
		wantScanned(t, s, "a", "", a, b, bb, d, f)
		wantScanned(t, s, "b", "", b, bb, d, f)
		wantScanned(t, s, "bb", "", bb, d, f)
		wantScanned(t, s, "f", "", f)
		wantScanned(t, s, "", "a")
		wantScanned(t, s, "", "b", a)
		wantScanned(t, s, "", "f", a, b, bb, d)
		wantScanned(t, s, "b", "d", b, bb)
		wantScanned(t, s, "bb", "f", bb, d)
		// such that were taken away
		wantScanned(t, s, "e", "", f)
		wantScanned(t, s, "e", "h", f)
		wantScanned(t, s, "", "e", a, b, bb, d)
		wantScanned(t, s, "g", "h")
		wantScanned(t, s, "h", "")
		wantScanned(t, s, "j", "")
		// such that never were
		wantScanned(t, s, "aa", "", b, bb, d, f)
		wantScanned(t, s, "b\x00", "", bb, d, f)
		wantScanned(t, s, "c", "e\xff", d)
		wantScanned(t, s, "ba", "bc", bb)
		wantScanned(t, s, "z", "")
		wantScanned(t, s, "", "A")
		wantScanned(t, s, "", "\x00")
		wantScanned(t, s, "", "f\x00", a, b, bb, d, f)
		wantScanned(t, s, "", long(200), a, b, bb, d, f)
		wantScanned(t, s, long(200), "")
		// low at high, and above it
		wantScanned(t, s, "b", "b")
		wantScanned(t, s, "c", "c")
		wantScanned(t, s, "d", "b")
		wantScanned(t, s, "f", "a")
		wantScanned(t, s, "z", "a")
		wantScanned(t, s, long(200), "a")
		if t.Failed() {
			t.Fatalf("behind %s", between.name)
		}
	}
}

func TestScanOfNone(t *testing.T) {
	for _, s := range []*lsm.Store{made(t, 1), made(t, 400), opened(t, 3), opened(t, 3, built(t)), opened(t, 3, built(t, gone("a"), gone("b")))} {
		for _, low := range []string{"", "a", "b"} {
			for _, high := range []string{"", "a", "b"} {
				wantScanned(t, s, low, high)
			}
		}
		wantNone(t, s, "", "a", "b")
	}
}

func TestScanWithKeyOfNoByte(t *testing.T) {
	s := made(t, 2)
	does(t, s, put("a", "1"), put("", "2"), put("b", "3"))
	wantScanned(t, s, "", "", put("", "2"), put("a", "1"), put("b", "3"))
	wantScanned(t, s, "", "\x00", put("", "2"))
	wantScanned(t, s, "", "a", put("", "2"))
	wantScanned(t, s, "\x00", "", put("a", "1"), put("b", "3"))
}

// Keys are sorted by bytes.
func TestScanByKeys(t *testing.T) {
	var sorted []api.Entry
	for _, key := range []string{"", "\x00", "10", "9", "B", "a", "a\x00", "aa", "ab", "b", "z", "é", "\xff"} {
		sorted = append(sorted, put(key, "of "+key))
	}
	for _, limit := range []int{1, 2, 5, 400} {
		up, down := made(t, limit), made(t, limit)
		does(t, up, sorted...)
		wantAll(t, up, sorted...)
		for _, e := range slices.Backward(sorted) {
			does(t, down, e)
		}
		wantAll(t, down, sorted...)
	}
}

func TestScanOfMany(t *testing.T) {
	for _, limit := range limits {
		s := made(t, limit)
		all := many(0, 400)
		does(t, s, many(200, 200)...)
		does(t, s, many(0, 200)...)
		for _, i := range []int{0, 1, 7, 200, 399} {
			wantScanned(t, s, all[i].Key, "", all[i:]...)
			wantScanned(t, s, "", all[i].Key, all[:i]...)
			for _, j := range []int{0, 5, 201, 399} {
				wantScanned(t, s, all[i].Key, all[j].Key, all[min(i, j):j]...)
			}
		}
	}
}

// To ask changes nothing, and what is given out is the caller's.
func TestFoundIsFresh(t *testing.T) {
	s := spread(t)
	fresh, tables := s.Fresh(), s.Tables()
	first, second := s.Scan("", ""), s.Scan("", "")
	have := slices.Clone(first)
	wantSame(t, s, fresh, tables)
	for i := range first[:cap(first)] {
		first[:cap(first)][i] = gone("spoilt")
	}
	if !slices.Equal(second, have) {
		t.Errorf("what was found became %v", second)
	}
	wantAll(t, s, have...)
	wantSame(t, s, fresh, tables)
}
