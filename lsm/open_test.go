package lsm_test

import (
	"bytes"
	"slices"
	"testing"

	"weirgate/api"
	"weirgate/frame"
	"weirgate/lsm"
)

// L2, Open

func TestOpen(t *testing.T) {
	first, second, third := list(gone("a"), put("b", "1")), list(put("a", "2"), gone("b"), put("c", "2")), list(put("a", "3"), gone("c"), put("d", ""), gone("e"))
	tables := [][]byte{built(t, first...), built(t, second...), built(t, third...)}
	s := opened(t, 2, tables...)
	wantTables(t, s, 0, first, second, third)
	wantAll(t, s, put("b", "1"), put("c", "2"), put("d", ""))
	wantNone(t, s, "a", "e", "f")

	slices.Reverse(tables)
	s = opened(t, 2, tables...)
	wantTables(t, s, 0, third, second, first)
	wantAll(t, s, put("a", "3"), put("d", ""))
	wantNone(t, s, "b", "c", "e")

	does(t, s, put("e", "5"))
	wantTables(t, s, 1, third, second, first)
	does(t, s, gone("d"))
	wantTables(t, s, 0, list(gone("d"), put("e", "5")), third, second, first)
	wantAll(t, s, put("a", "3"), put("e", "5"))
	compact(t, s)
	wantTables(t, s, 0, list(put("a", "3"), put("e", "5")))
}

func TestOpenOfNone(t *testing.T) {
	for _, tables := range [][][]byte{nil, {}} {
		s := opened(t, 2, tables...)
		wantTables(t, s, 0)
		wantAll(t, s)
		does(t, s, put("a", "1"), put("b", "2"))
		wantTables(t, s, 0, list(put("a", "1"), put("b", "2")))
	}
}

// A table of no entry is one of those there are.
func TestOpenOfEmptyTables(t *testing.T) {
	empty, one := built(t), built(t, put("a", "1"))
	s := opened(t, 400, empty, one, empty, empty)
	wantTables(t, s, 0, nil, list(put("a", "1")), nil, nil)
	wantAll(t, s, put("a", "1"))
	flush(t, s)
	wantTables(t, s, 0, nil, list(put("a", "1")), nil, nil)
	compact(t, s)
	wantTables(t, s, 0, list(put("a", "1")))
}

// The same table may be there twice.
func TestOpenOfOneTwice(t *testing.T) {
	full := built(t, many(0, 400)...)
	s := opened(t, 400, full, full, full)
	wantTables(t, s, 0, many(0, 400), many(0, 400), many(0, 400))
	wantAll(t, s, many(0, 400)...)
	wantTold(t, s.Put("a", "x"), api.ErrFull)
}

// noTables are bytes that Build does not give.
func noTables(t *testing.T) [][]byte {
	right := built(t, put("a", "1"), put("b", "2"))
	changed := bytes.Clone(right)
	changed[3] ^= 1
	return [][]byte{
		nil, {}, {0}, {1, 2, 3}, spoilt(500), changed, right[:len(right)-1], right[1:], append(bytes.Clone(right), 0), slices.Concat(right, right),
		frame.Seal(nil), frame.Seal(frame.Num(1)), frame.Seal(frame.Num(401)), frame.Seal(slices.Concat(frame.Num(2), entryBytes("b"), entryBytes("a"))),
	}
}

func entryBytes(key string) []byte {
	return slices.Concat(frame.Text(key), frame.Num(0), frame.Text("x"))
}

func TestOpenOfNoTables(t *testing.T) {
	a, b := built(t, put("a", "1")), built(t, gone("a"), put("b", "2"))
	for _, wrong := range noTables(t) {
		for _, limit := range []int{1, 7, 400} {
			wantUnopened(t, api.ErrFile, limit, wrong)
			wantUnopened(t, api.ErrFile, limit, wrong, a, b)
			wantUnopened(t, api.ErrFile, limit, a, wrong, b)
			wantUnopened(t, api.ErrFile, limit, a, b, wrong)
			wantUnopened(t, api.ErrFile, limit, wrong, wrong)
		}
	}
	opened(t, 1, a, b)
}

func TestOpenOfTooMany(t *testing.T) {
	full, half := built(t, many(0, 400)...), built(t, many(300, 200)...)
	opened(t, 400, full)
	opened(t, 400, full, built(t, many(399, 1)...))
	opened(t, 400, half, built(t, many(100, 200)...))
	opened(t, 400, built(t, away(0, 400)...))
	opened(t, 400, built(t, away(0, 400)...), full)
	opened(t, 400, full, built(t, away(0, 400)...))
	one, dead := built(t, many(400, 1)...), built(t, away(400, 1)...)
	for _, more := range [][]byte{one, dead, built(t, put("", "")), built(t, gone("")), built(t, many(1, 400)...), built(t, away(1, 400)...), half} {
		for _, limit := range []int{1, 400} {
			wantUnopened(t, api.ErrFull, limit, full, more)
			wantUnopened(t, api.ErrFull, limit, more, full)
			wantUnopened(t, api.ErrFull, limit, built(t), more, full, full)
		}
	}
	wantUnopened(t, api.ErrFull, 400, built(t, away(0, 400)...), dead, full)
	wantUnopened(t, api.ErrFull, 400, dead, built(t, away(0, 400)...))
	// of many tables with one key each
	var single [][]byte
	for i := range 400 {
		single = append(single, built(t, many(i, 1)...))
	}
	wantAll(t, opened(t, 1, single...), many(0, 400)...)
	wantUnopened(t, api.ErrFull, 1, append(single, dead)...)
	wantUnopened(t, api.ErrFull, 1, slices.Insert(single, 0, one)...)
}

func TestOpenTellsTheFirst(t *testing.T) {
	full, more := built(t, many(0, 400)...), built(t, many(400, 1)...)
	for _, limit := range []int{0, -1, 401, -1 << 63, 1<<63 - 1} {
		wantUnopened(t, api.ErrRange, limit, full)
		wantUnopened(t, api.ErrRange, limit, full, more)
		for _, wrong := range noTables(t) {
			wantUnopened(t, api.ErrRange, limit, wrong)
			wantUnopened(t, api.ErrRange, limit, full, wrong, more)
		}
	}
	for _, wrong := range noTables(t) {
		wantUnopened(t, api.ErrFile, 1, full, more, wrong)
		wantUnopened(t, api.ErrFile, 1, full, wrong, more)
		wantUnopened(t, api.ErrFile, 1, wrong, full, more)
	}
}

// What was handed in is neither changed nor kept, and nothing behind it read.
func TestOpenKeepsNothing(t *testing.T) {
	first, second := list(put("a", "1"), gone("c")), list(put("b", "2"), put("c", "2"))
	one := append(built(t, first...), 7, 7, 7)
	tables := [][]byte{one[:len(one)-3], built(t, second...), spoilt(3)}
	var have [][]byte
	for _, b := range tables {
		have = append(have, bytes.Clone(b))
	}
	s := opened(t, 2, tables[:2]...)
	does(t, s, put("a", "3"), gone("b"))
	compact(t, s)
	other := opened(t, 2, tables[:2]...)
	spoil(other.Tables()[0])
	spoil(other.Tables()[1])
	if !slices.EqualFunc(tables, have, bytes.Equal) || !bytes.Equal(one[len(one)-3:], []byte{7, 7, 7}) {
		t.Errorf("the tables became %v, %v, were %v", tables, one, have)
	}
	for _, b := range tables {
		spoil(b)
	}
	clear(tables)
	wantTables(t, other, 0, first, second)
	wantAll(t, other, put("a", "1"), put("b", "2"))
	wantAll(t, s, put("a", "3"))
}

// A Store that is opened with another's tables says what that one said.
func TestOpenOfTables(t *testing.T) {
	for _, limit := range limits {
		s := made(t, limit)
		does(t, s, many(0, 350)...)
		does(t, s, away(100, 200)...)
		does(t, s, put(key(150), "again"), put(key(0), ""))
		flush(t, s)
		for _, other := range []int{1, 2, 300, 400} {
			again := opened(t, other, s.Tables()...)
			wantSaysTheSame(t, again, s)
			if again.Fresh() != 0 || !slices.EqualFunc(again.Tables(), s.Tables(), bytes.Equal) {
				t.Errorf("%d are fresh, and the tables are others", again.Fresh())
			}
			does(t, again, put("a", "x"), gone(key(1)))
			compact(t, again)
			wantNone(t, s, "a")
			wantGot(t, s, key(1), "1")
		}
	}
}

func wantSaysTheSame(t *testing.T, got, want *lsm.Store) {
	t.Helper()
	wantAll(t, got, want.Scan("", "")...)
	for i := range 400 {
		value, err := got.Get(key(i))
		if right, told := want.Get(key(i)); value != right || err != told {
			t.Errorf("Get(%q) is %q, %v, want %q, %v", key(i), value, err, right, told)
		}
	}
}
