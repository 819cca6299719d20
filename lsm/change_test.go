package lsm_test

import (
	"slices"
	"testing"

	"weirgate/api"
	"weirgate/lsm"
)

// L1, Put and Del

func TestPutAndDel(t *testing.T) {
	s := made(t, 400)
	wantAll(t, s)
	does(t, s, put("b", "1"), put("a", "2"), put("c", ""))
	wantAll(t, s, put("a", "2"), put("b", "1"), put("c", ""))
	does(t, s, put("b", "3"), gone("a"), gone("d"))
	wantAll(t, s, put("b", "3"), put("c", ""))
	wantNone(t, s, "a", "d")
	does(t, s, put("a", "4"), put("d", "5"), gone("b"), gone("b"))
	wantAll(t, s, put("a", "4"), put("c", ""), put("d", "5"))
	wantNone(t, s, "b")
}

func TestKeyOfNoByte(t *testing.T) {
	s := made(t, 2)
	wantNone(t, s, "")
	does(t, s, put("", "1"))
	wantAll(t, s, put("", "1"))
	does(t, s, put("a", "2"), put("", ""))
	wantAll(t, s, put("", ""), put("a", "2"))
	does(t, s, gone(""))
	wantAll(t, s, put("a", "2"))
	wantNone(t, s, "")
}

func TestTextsOfAnyBytes(t *testing.T) {
	s := made(t, 3)
	all := list(put("\x00", "\xff\x00"), put("a\x00", "="), put("a\n b", "\n"), put("é", "\x80"), put("\xff", "!"))
	does(t, s, all...)
	wantAll(t, s, all...)
}

func TestLongTexts(t *testing.T) {
	for _, limit := range []int{1, 2, 400} {
		s := made(t, limit)
		does(t, s, put(long(120), long(120)), put("a", long(120)), put(long(119), "x"), gone("b"+long(119)))
		all := list(put("a", long(120)), put(long(119), "x"), put(long(120), long(120)))
		wantAll(t, s, all...)
		fresh, tables := s.Fresh(), s.Tables()
		for _, many := range []int{121, 122, 376, 100_000} {
			wantTold(t, s.Put(long(many), "x"), api.ErrRange)
			wantTold(t, s.Put("a", long(many)), api.ErrRange)
			wantTold(t, s.Put("c", long(many)), api.ErrRange)
			wantTold(t, s.Put(long(many), long(many)), api.ErrRange)
			wantTold(t, s.Del(long(many)), api.ErrRange)
			wantNone(t, s, long(many))
		}
		wantSame(t, s, fresh, tables)
		wantAll(t, s, all...)
		does(t, s, gone(long(120)))
		wantAll(t, s, all[:2]...)
	}
}

// wantSame holds that tables and fresh ones are as they were.
func wantSame(t *testing.T, s *lsm.Store, fresh int, tables [][]byte) {
	t.Helper()
	if got := s.Tables(); s.Fresh() != fresh || !slices.EqualFunc(got, tables, slices.Equal) {
		t.Errorf("there are %d fresh and %d tables, were %d and %d", s.Fresh(), len(got), fresh, len(tables))
	}
}

// limits are such at which MaxItems keys lie in one table, in many, among the
// fresh ones, or some here and some there.
var limits = []int{1, 7, 150, 199, 200, 399, 400}

func TestFull(t *testing.T) {
	for _, limit := range limits {
		s := made(t, limit)
		all := many(0, 400)
		does(t, s, all...)
		wantAll(t, s, all...)
		fresh, tables := s.Fresh(), s.Tables()
		for _, other := range []string{"", "a", "k", "k1", key(400), key(1000), "z", long(120)} {
			wantTold(t, s.Put(other, "x"), api.ErrFull)
			wantTold(t, s.Put(other, ""), api.ErrFull)
			wantTold(t, s.Del(other), api.ErrFull)
			wantNone(t, s, other)
		}
		wantSame(t, s, fresh, tables)
		wantAll(t, s, all...)
		// of a key that is there already it is none
		all[0].Value, all[250].Value, all[399].Value = "new", "", long(120)
		does(t, s, all[0], all[250], all[399])
		wantAll(t, s, all...)
	}
}

func TestFullWithThoseTakenAway(t *testing.T) {
	for _, limit := range limits {
		s := made(t, limit)
		does(t, s, many(0, 400)...)
		does(t, s, away(0, 399)...)
		left := put(key(399), "399")
		wantAll(t, s, left)
		wantTold(t, s.Put("a", "x"), api.ErrFull)
		wantTold(t, s.Del("a"), api.ErrFull)
		flush(t, s)
		wantTold(t, s.Put("a", "x"), api.ErrFull)
		wantTold(t, s.Del("a"), api.ErrFull)
		// of a key that was taken away and is not forgotten it is none
		does(t, s, gone(key(5)), put(key(7), "again"))
		wantAll(t, s, put(key(7), "again"), left)
		compact(t, s)
		does(t, s, many(1000, 398)...)
		wantAll(t, s, append(list(put(key(7), "again"), left), many(1000, 398)...)...)
		wantTold(t, s.Put(key(5), "x"), api.ErrFull)
		wantTold(t, s.Del(key(5)), api.ErrFull)
	}
}

// Keys that were never there are not forgotten either.
func TestFullOfThoseNeverThere(t *testing.T) {
	for _, limit := range limits {
		s := made(t, limit)
		does(t, s, away(0, 400)...)
		wantAll(t, s)
		wantTold(t, s.Put("a", "x"), api.ErrFull)
		wantTold(t, s.Del("a"), api.ErrFull)
		does(t, s, put(key(3), "3"), gone(key(4)))
		wantAll(t, s, put(key(3), "3"))
		compact(t, s)
		does(t, s, away(1000, 399)...)
		wantTold(t, s.Put("a", "x"), api.ErrFull)
		wantAll(t, s, put(key(3), "3"))
	}
}

func TestRoomBehindCompact(t *testing.T) {
	for _, limit := range limits {
		s := made(t, limit)
		does(t, s, many(0, 400)...)
		compact(t, s)
		wantTold(t, s.Put("a", "x"), api.ErrFull)
		does(t, s, gone(key(0)))
		wantTold(t, s.Put("a", "x"), api.ErrFull)
		compact(t, s)
		does(t, s, put("a", "x"))
		wantTold(t, s.Put("b", "x"), api.ErrFull)
		wantTold(t, s.Put(key(0), "x"), api.ErrFull)
		wantAll(t, s, append(list(put("a", "x")), many(1, 399)...)...)
	}
}

// A key counts once, however often it was put and flushed.
func TestOneKeyIsOne(t *testing.T) {
	for _, limit := range []int{1, 2, 3} {
		s := made(t, limit)
		for i := range 1000 {
			does(t, s, put(key(i%2), key(i)), gone(key(1-i%2)))
		}
		wantAll(t, s, put(key(1), key(999)))
		does(t, s, many(2, 398)...)
		wantTold(t, s.Put("a", "x"), api.ErrFull)
	}
}

func TestRangeAheadOfFull(t *testing.T) {
	s := made(t, 10)
	does(t, s, many(0, 400)...)
	wantTold(t, s.Put(long(121), "x"), api.ErrRange)
	wantTold(t, s.Put("a", long(121)), api.ErrRange)
	wantTold(t, s.Del(long(121)), api.ErrRange)
}
