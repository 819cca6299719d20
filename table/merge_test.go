package table_test

import (
	"bytes"
	"slices"
	"testing"

	"weirgate/api"
	"weirgate/plain"
	"weirgate/table"
)

// T1, Merge

// wantEitherWay holds what is merged where Dead ones make no difference.
func wantEitherWay(t *testing.T, tables [][]byte, want ...api.Entry) {
	t.Helper()
	wantMerged(t, tables, false, want...)
	wantMerged(t, tables, true, want...)
}

func TestMergeOfNone(t *testing.T) {
	wantEitherWay(t, nil)
	wantEitherWay(t, [][]byte{})
	wantEitherWay(t, [][]byte{built(t)})
	wantEitherWay(t, [][]byte{built(t), built(t), built(t)})
}

func TestMergeOfOne(t *testing.T) {
	l := list(put("a", "1"), gone("b"), put("c", ""), gone("d"))
	b := built(t, l...)
	for _, tables := range [][][]byte{{b}, {b, b, b}, {built(t), b}, {b, built(t)}} {
		wantMerged(t, tables, true, l...)
		wantMerged(t, tables, false, l[0], l[2])
	}
	b = built(t, gone("a"), gone("b"))
	wantMerged(t, [][]byte{b}, true, gone("a"), gone("b"))
	wantMerged(t, [][]byte{b}, false)
	wantEitherWay(t, [][]byte{built(t, live(0, 400)...)}, live(0, 400)...)
}

func TestMergeTakesTheFirst(t *testing.T) {
	one := built(t, put("a", "1"), put("c", "1"))
	two := built(t, put("", "2"), put("b", "2"), put("c", "2"))
	three := built(t, put("", "3"), put("a", "3"), put("b", ""), put("c", "3"), put("d", "3"))
	wantEitherWay(t, [][]byte{one, two, three}, put("", "2"), put("a", "1"), put("b", "2"), put("c", "1"), put("d", "3"))
	wantEitherWay(t, [][]byte{one, three, two}, put("", "3"), put("a", "1"), put("b", ""), put("c", "1"), put("d", "3"))
	wantEitherWay(t, [][]byte{two, one, three}, put("", "2"), put("a", "1"), put("b", "2"), put("c", "2"), put("d", "3"))
	wantEitherWay(t, [][]byte{two, three, one}, put("", "2"), put("a", "3"), put("b", "2"), put("c", "2"), put("d", "3"))
	wantEitherWay(t, [][]byte{three, one, two}, put("", "3"), put("a", "3"), put("b", ""), put("c", "3"), put("d", "3"))
	wantEitherWay(t, [][]byte{one, two}, put("", "2"), put("a", "1"), put("b", "2"), put("c", "1"))
}

func TestMergeOfKeysApart(t *testing.T) {
	one := built(t, put("b", "1"), put("d", "1"))
	two := built(t, put("a", "2"), put("c", "2"), put("e", "2"))
	wantEitherWay(t, [][]byte{one, two}, put("a", "2"), put("b", "1"), put("c", "2"), put("d", "1"), put("e", "2"))
	wantEitherWay(t, [][]byte{two, one}, put("a", "2"), put("b", "1"), put("c", "2"), put("d", "1"), put("e", "2"))
}

// A Dead one of an earlier table hides a live one of a later, whether it is
// told itself or not.
func TestMergeOfDeadOnes(t *testing.T) {
	hide, show := built(t, gone("a"), put("b", "1")), built(t, put("a", "2"), gone("b"), gone("c"))
	wantMerged(t, [][]byte{hide, show}, false, put("b", "1"))
	wantMerged(t, [][]byte{hide, show}, true, gone("a"), put("b", "1"), gone("c"))
	wantMerged(t, [][]byte{show, hide}, false, put("a", "2"))
	wantMerged(t, [][]byte{show, hide}, true, put("a", "2"), gone("b"), gone("c"))

	late := built(t, put("a", "3"), put("b", "3"), put("c", "3"), put("d", "3"))
	wantMerged(t, [][]byte{hide, show, late}, false, put("b", "1"), put("d", "3"))
	wantMerged(t, [][]byte{hide, show, late}, true, gone("a"), put("b", "1"), gone("c"), put("d", "3"))
	wantMerged(t, [][]byte{hide, late, show}, false, put("b", "1"), put("c", "3"), put("d", "3"))
	wantEitherWay(t, [][]byte{late, hide, show}, put("a", "3"), put("b", "3"), put("c", "3"), put("d", "3"))
}

func TestMergeOfWhatIsNoTable(t *testing.T) {
	good, other := built(t, put("a", "1")), built(t, gone("b"))
	cut := good[:len(good)-1]
	for _, bad := range [][]byte{nil, {}, {0}, cut, append(bytes.Clone(good), 0), forged(bothWrong), forged(rising(0, 401)...)} {
		wantUnmerged(t, api.ErrFile, bad)
		wantUnmerged(t, api.ErrFile, bad, good)
		wantUnmerged(t, api.ErrFile, good, bad)
		wantUnmerged(t, api.ErrFile, bad, good, other)
		wantUnmerged(t, api.ErrFile, good, bad, other)
		wantUnmerged(t, api.ErrFile, good, other, bad)
		wantUnmerged(t, api.ErrFile, bad, bad)
	}
}

func TestMergeOfTooMany(t *testing.T) {
	one, two, more := built(t, live(0, 200)...), built(t, live(200, 200)...), built(t, live(400, 1)...)
	wantEitherWay(t, [][]byte{one, two}, live(0, 400)...)
	wantEitherWay(t, [][]byte{two, one}, live(0, 400)...)
	wantEitherWay(t, [][]byte{two, one, two, one, one}, live(0, 400)...)
	wantUnmerged(t, api.ErrFull, one, two, more)
	wantUnmerged(t, api.ErrFull, more, two, one)
	full, next := built(t, live(0, 400)...), built(t, live(400, 400)...)
	wantUnmerged(t, api.ErrFull, full, next)
	wantEitherWay(t, [][]byte{full, full}, live(0, 400)...)
	// one table that is none is told ahead
	wantUnmerged(t, api.ErrFile, full, next, nil)
	wantUnmerged(t, api.ErrFile, nil, full, next)
	wantUnmerged(t, api.ErrFile, full, full[:len(full)-1], next)
}

// What counts is how many are left.
func TestMergeCountsWhatIsLeft(t *testing.T) {
	var dead []api.Entry
	for _, e := range live(400, 400) {
		dead = append(dead, gone(e.Key))
	}
	full, away, more := built(t, live(0, 400)...), built(t, dead...), built(t, live(400, 400)...)
	wantMerged(t, [][]byte{full, away}, false, live(0, 400)...)
	wantMerged(t, [][]byte{away, more, full}, false, live(0, 400)...)
	wantMerged(t, [][]byte{away, more}, true, dead...)
	for _, tables := range [][][]byte{{full, away}, {away, full}, {away, more, full}} {
		if b, err := table.Merge(tables, true); b != nil || plain.Told(err) != api.ErrFull {
			t.Errorf("Merge is %v, %v, want nothing, ErrFull", b, err)
		}
	}
	if b, err := table.Merge([][]byte{more, away, full}, false); b != nil || plain.Told(err) != api.ErrFull {
		t.Errorf("Merge is %v, %v, want nothing, ErrFull", b, err)
	}
}

func TestMergeIsFresh(t *testing.T) {
	one, two := built(t, put("a", "1"), gone("c")), built(t, put("b", "2"), put("c", "2"))
	behind := []byte{1, 2, 3}
	have := [][]byte{bytes.Clone(one), bytes.Clone(two), bytes.Clone(behind)}
	tables := [][]byte{one, two, behind}[:2]
	first, err := table.Merge(tables, true)
	if err != nil {
		t.Fatal(err)
	}
	second, _ := table.Merge(tables, true)
	alone, _ := table.Merge(tables[:1], true)
	if !slices.EqualFunc(tables[:3], have, bytes.Equal) {
		t.Errorf("the tables became %v, were %v", tables[:3], have)
	}
	clear(first[:cap(first)])
	clear(alone[:cap(alone)])
	if !slices.EqualFunc(tables[:3], have, bytes.Equal) {
		t.Errorf("the tables became %v, were %v", tables[:3], have)
	}
	clear(one)
	clear(two)
	wantRead(t, second, put("a", "1"), put("b", "2"), gone("c"))
}
