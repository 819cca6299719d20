package table_test

import (
	"bytes"
	"slices"
	"testing"

	"weirgate/api"
	"weirgate/table"
)

// T1, Get and Scan

func TestGet(t *testing.T) {
	b := built(t, put("b", "1"), gone("bb"), put("d", ""), gone("e"), put("f", "2"))
	wantGot(t, b, "b", put("b", "1"))
	wantGot(t, b, "bb", gone("bb"))
	wantGot(t, b, "d", put("d", ""))
	wantGot(t, b, "e", gone("e"))
	wantGot(t, b, "f", put("f", "2"))
	for _, key := range []string{"", "a", "az", "b\x00", "ba", "bbb", "c", "cc", "dd", "ee", "ff", "f\x00", "g", "\xff", "B", "bb ", long(120), long(121), long(100_000)} {
		wantNotGot(t, b, key, api.ErrNone)
	}
}

func TestGetOfNoByte(t *testing.T) {
	wantNotGot(t, built(t), "", api.ErrNone)
	wantNotGot(t, built(t, put("a", "1")), "", api.ErrNone)
	wantGot(t, built(t, put("", "1"), put("a", "2")), "", put("", "1"))
	wantGot(t, built(t, gone(""), put("a", "2")), "", gone(""))
	wantGot(t, built(t, api.Entry{}), "", api.Entry{})
}

func TestGetOfNone(t *testing.T) {
	for _, key := range []string{"", "a", "\x00", long(120), long(121)} {
		wantNotGot(t, built(t), key, api.ErrNone)
	}
}

func TestGetOfEach(t *testing.T) {
	for many := range 40 {
		l := rising(0, many)
		b := built(t, l...)
		for _, e := range l {
			wantGot(t, b, e.Key, e)
			wantNotGot(t, b, e.Key+"x", api.ErrNone)
			wantNotGot(t, b, e.Key[:5], api.ErrNone)
		}
	}
	l := rising(0, 400)
	b := built(t, l...)
	for _, i := range []int{0, 1, 2, 199, 200, 398, 399} {
		wantGot(t, b, l[i].Key, l[i])
	}
}

// A part of a table may be right, and have the key: it is none nevertheless.
func TestGetFileAheadOfNone(t *testing.T) {
	b := built(t, put("a", "1"), put("b", "2"))
	b[len(b)-1] ^= 1
	for _, key := range []string{"a", "b", "c", ""} {
		wantNotGot(t, b, key, api.ErrFile)
	}
	wantNotGot(t, forged(put("a", "1"), put("c", "2"), put("b", "3")), "a", api.ErrFile)
	wantNotGot(t, nil, "a", api.ErrFile)
}

func TestScan(t *testing.T) {
	one, two, three, four := put("b", "1"), gone("bb"), put("d", ""), put("f", "2")
	b := built(t, one, two, three, four)
	wantScanned(t, b, "", "", one, two, three, four)
	// low and high that are keys
	wantScanned(t, b, "b", "", one, two, three, four)
	wantScanned(t, b, "bb", "", two, three, four)
	wantScanned(t, b, "f", "", four)
	wantScanned(t, b, "", "b")
	wantScanned(t, b, "", "bb", one)
	wantScanned(t, b, "", "d", one, two)
	wantScanned(t, b, "", "f", one, two, three)
	wantScanned(t, b, "b", "bb", one)
	wantScanned(t, b, "bb", "f", two, three)
	wantScanned(t, b, "b", "f", one, two, three)
	// such that are none
	wantScanned(t, b, "a", "", one, two, three, four)
	wantScanned(t, b, "b\x00", "", two, three, four)
	wantScanned(t, b, "c", "e", three)
	wantScanned(t, b, "ba", "bc", two)
	wantScanned(t, b, "e", "", four)
	wantScanned(t, b, "g", "")
	wantScanned(t, b, "\xff", "")
	wantScanned(t, b, "", "a")
	wantScanned(t, b, "", "\x00")
	wantScanned(t, b, "", "g", one, two, three, four)
	wantScanned(t, b, "", "f\x00", one, two, three, four)
	wantScanned(t, b, "", long(200), one, two, three, four)
	wantScanned(t, b, "dd", "e")
	// low at high, and above it
	wantScanned(t, b, "b", "b")
	wantScanned(t, b, "d", "d")
	wantScanned(t, b, "c", "c")
	wantScanned(t, b, "d", "b")
	wantScanned(t, b, "f", "bb")
	wantScanned(t, b, "g", "a")
	wantScanned(t, b, long(200), "a")
}

func TestScanWithKeyOfNoByte(t *testing.T) {
	b := built(t, put("", "1"), gone("a"))
	wantScanned(t, b, "", "", put("", "1"), gone("a"))
	wantScanned(t, b, "", "a", put("", "1"))
	wantScanned(t, b, "", "\x00", put("", "1"))
	wantScanned(t, b, "\x00", "", gone("a"))
}

func TestScanOfNone(t *testing.T) {
	for _, low := range []string{"", "a", "b"} {
		for _, high := range []string{"", "a", "b"} {
			wantScanned(t, built(t), low, high)
		}
	}
}

func TestScanOfMany(t *testing.T) {
	l := rising(0, 400)
	b := built(t, l...)
	for _, i := range []int{0, 1, 7, 200, 399} {
		wantScanned(t, b, l[i].Key, "", l[i:]...)
		wantScanned(t, b, "", l[i].Key, l[:i]...)
		for _, j := range []int{0, 5, 201, 399} {
			wantScanned(t, b, l[i].Key, l[j].Key, l[min(i, j):j]...)
		}
	}
}

func TestFoundIsFresh(t *testing.T) {
	have := list(put("a", "1"), gone("b"), put("c", "3"))
	b := append(built(t, have...), 7, 7, 7)
	before := bytes.Clone(b)
	b = b[:len(b)-3]
	one, _ := table.Get(b, "c")
	first, _ := table.Scan(b, "b", "")
	second, _ := table.Scan(b, "b", "")
	if !bytes.Equal(b[:len(before)], before) {
		t.Errorf("the bytes became %v, were %v", b[:len(before)], before)
	}
	clear(first[:cap(first)])
	clear(b)
	if !slices.Equal(second, have[1:]) || one != have[2] {
		t.Errorf("what was found became %v and %v", second, one)
	}
}
