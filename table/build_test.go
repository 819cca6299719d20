package table_test

import (
	"bytes"
	"slices"
	"strings"
	"testing"

	"weirgate/api"
	"weirgate/table"
)

// T1, Build and Read

func TestBuild(t *testing.T) {
	wantBuilt(t)
	wantBuilt(t, []api.Entry{}...)
	wantBuilt(t, api.Entry{})
	wantBuilt(t, put("a", "x"))
	wantBuilt(t, put("a", ""))
	wantBuilt(t, put("", "x"))
	wantBuilt(t, gone(""))
	wantBuilt(t, gone("a"))
	wantBuilt(t, gone("a"), put("b", "2"), gone("c"), put("d", ""), gone("e"))
	wantBuilt(t, put("", "1"), put("a", "1"), put("aa", "1"), put("ab", "1"), put("b", "1"))
	wantBuilt(t, put("a\x00", "\x00\xff"), put("a=b c\n!", "=!\n x"))
}

// A table of no entry has bytes too, always the same ones.
func TestBuildOfNone(t *testing.T) {
	first := built(t)
	if second, err := table.Build([]api.Entry{}); err != nil || len(first) == 0 || !bytes.Equal(first, second) {
		t.Errorf("Build of no entry is %v and %v, %v", first, second, err)
	}
	if l, err := table.Read(first); err != nil || len(l) != 0 {
		t.Errorf("Read of a table of none is %v, %v", l, err)
	}
}

func TestBuildTellsAllApart(t *testing.T) {
	all := [][]api.Entry{
		nil, list(put("", "")), list(gone("")), list(put("a", "")), list(put("", "a")), list(gone("a")), list(put("a", "b")),
		list(put("ab", "")), list(put("", "ab")), list(put("", ""), put("a", "b")), list(put("a", ""), put("b", "")), list(gone("a"), put("b", "")),
		list(put("a", ""), gone("b")), list(gone("a"), gone("b")), list(put("a", "b"), put("b", "a")),
	}
	for i, l := range all {
		wantBuilt(t, l...)
		for _, other := range all[:i] {
			if bytes.Equal(built(t, l...), built(t, other...)) {
				t.Errorf("%v and %v are built alike", l, other)
			}
		}
	}
}

func TestBuildOfMany(t *testing.T) {
	for _, many := range []int{1, 2, 63, 64, 65, 399, 400} {
		wantBuilt(t, rising(0, many)...)
	}
	for _, many := range []int{401, 402, 800, 100_000} {
		wantUnbuilt(t, api.ErrFull, rising(0, many)...)
		wantUnbuilt(t, api.ErrFull, make([]api.Entry, many)...)
	}
}

// MaxItems entries with the longest texts there may be.
func TestBuildOfMost(t *testing.T) {
	l := rising(0, api.MaxItems)
	for i := range l {
		l[i] = put(l[i].Key+long(api.MaxText-len(l[i].Key)), long(api.MaxText))
	}
	wantBuilt(t, l...)
}

func TestBuildFullAheadOfAll(t *testing.T) {
	for _, wrong := range [][]api.Entry{
		{put(long(121), "")}, {put("a", long(121))}, {{Key: "a", Value: "x", Dead: true}}, {put("b", ""), put("a", "")}, {put("a", ""), put("a", "")},
	} {
		l := append(slices.Clone(wrong), rising(0, 401-len(wrong))...)
		wantUnbuilt(t, api.ErrFull, l...)
		l = append(rising(0, 401-len(wrong)), wrong...)
		wantUnbuilt(t, api.ErrFull, l...)
	}
}

func TestBuildOfLongTexts(t *testing.T) {
	for _, many := range []int{63, 64, 119, 120} {
		wantBuilt(t, put(long(many), "x"))
		wantBuilt(t, gone(long(many)))
		wantBuilt(t, put("a", long(many)))
		wantBuilt(t, put(long(many), long(many)))
	}
	for _, many := range []int{121, 122, 376, 100_000} {
		wantUnbuilt(t, api.ErrRange, put(long(many), "x"))
		wantUnbuilt(t, api.ErrRange, gone(long(many)))
		wantUnbuilt(t, api.ErrRange, put("a", long(many)))
		wantUnbuilt(t, api.ErrRange, put("a", "x"), put("b", long(many)), put("c", "y"))
		wantUnbuilt(t, api.ErrRange, put("a", "x"), put("b"+long(many-1), ""), put("c", "y"))
	}
}

// bothWrong is Dead, and has a Value.
var bothWrong = api.Entry{Key: "b", Value: "x", Dead: true}

func TestBuildOfDeadOnesWithValues(t *testing.T) {
	wantUnbuilt(t, api.ErrShape, bothWrong)
	wantUnbuilt(t, api.ErrShape, put("a", "x"), bothWrong, put("c", "x"))
	wantUnbuilt(t, api.ErrShape, put("a", "x"), bothWrong)
	wantUnbuilt(t, api.ErrShape, api.Entry{Value: "\x00", Dead: true})
	wantUnbuilt(t, api.ErrShape, api.Entry{Value: long(120), Dead: true})
}

func TestBuildOfKeysThatDoNotRise(t *testing.T) {
	for _, keys := range []string{
		"a,a", ",", "b,a", "a,", "aa,a", "a,B", "a,b,b", "a,b,a", "a,c,b", "b,a,c", "9,10", "b,aa", "ab,aab", "\x80,\x7f", "\xff,a", "é,z", "a\x00,a",
	} {
		var l, dead, mixed []api.Entry
		for i, key := range strings.Split(keys, ",") {
			l, dead = append(l, put(key, "x")), append(dead, gone(key))
			mixed = append(mixed, list(put(key, ""), gone(key))[i%2])
		}
		wantUnbuilt(t, api.ErrOrder, l...)
		wantUnbuilt(t, api.ErrOrder, dead...)
		wantUnbuilt(t, api.ErrOrder, mixed...)
	}
	wantBuilt(t, put("", ""), put("\x00", ""), put("9", ""), put("B", ""), put("a", ""), put("a\x00", ""), put("aa", ""), put("z", ""), put("é", ""), put("\xff", ""))
}

// Of the first entry that is wrong the first fault is told.
func TestBuildTellsTheFirst(t *testing.T) {
	wantUnbuilt(t, api.ErrRange, api.Entry{Key: "a", Value: long(121), Dead: true})
	wantUnbuilt(t, api.ErrRange, api.Entry{Key: long(121), Value: "x", Dead: true})
	wantUnbuilt(t, api.ErrRange, put("b", ""), put("a", long(121)))
	wantUnbuilt(t, api.ErrRange, put("\xff", ""), put(long(121), ""))
	wantUnbuilt(t, api.ErrRange, put("c", ""), api.Entry{Key: "b", Value: long(121), Dead: true})
	wantUnbuilt(t, api.ErrShape, put("c", ""), bothWrong)
	wantUnbuilt(t, api.ErrShape, put("b", ""), bothWrong)

	wantUnbuilt(t, api.ErrOrder, put("b", ""), put("a", ""), put("c", long(121)))
	wantUnbuilt(t, api.ErrOrder, put("a", ""), put("a", ""), bothWrong)
	wantUnbuilt(t, api.ErrShape, put("a", ""), bothWrong, put("a", ""))
	wantUnbuilt(t, api.ErrShape, put("a", ""), bothWrong, put("c", long(121)))
	wantUnbuilt(t, api.ErrRange, put("a", long(121)), bothWrong, put("a", ""))
	wantUnbuilt(t, api.ErrRange, put("a", ""), put("b", long(121)), put("a", ""), bothWrong)
}

// What is handed in is neither changed nor kept, what comes out is fresh.
func TestBuildIsFresh(t *testing.T) {
	have := list(put("a", "1"), gone("b"), put("c", "3"), put("behind", "4"))
	l := slices.Clone(have)[:3]
	first := built(t, l...)
	if !slices.Equal(l[:4], have) {
		t.Errorf("the entries became %v", l[:4])
	}
	second := built(t, l...)
	for i := range first[:cap(first)] {
		first[:cap(first)][i] = 99
	}
	clear(l[:4])
	wantRead(t, second, have[:3]...)
	wantRead(t, built(t, have[:3]...), have[:3]...)
}

func TestReadIsFresh(t *testing.T) {
	have := list(put("a", "1"), gone("b"), put("c", "3"))
	b := append(built(t, have...), 7, 7, 7)
	before := bytes.Clone(b)
	b = b[:len(b)-3]
	first, err := table.Read(b)
	if err != nil || !bytes.Equal(b[:len(before)], before) {
		t.Errorf("%v: the bytes became %v, were %v", err, b[:len(before)], before)
	}
	second, _ := table.Read(b)
	clear(first[:cap(first)])
	clear(b)
	if !slices.Equal(second, have) {
		t.Errorf("the entries became %v", second)
	}
}
