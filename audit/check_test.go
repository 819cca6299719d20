package audit_test

import (
	"strings"
	"testing"

	"weirgate/api"
)

// Q1, Check

func TestCheckOfRightLines(t *testing.T) {
	for _, l := range [][]api.Line{
		nil, {}, lines("a=1"), lines("a=0,0,0"), lines("a=1 b=2,3 c=-4"), lines("A=1 a=1"), lines("a=1 a0=1 aa=1 b=1"),
		{line("", 1)}, {line("", 1), line("\x00", 1), line(" ", 1)},
		{line("a", -1<<63, 1<<63-1)},
		{line(strings.Repeat("k", 100*api.MaxKey), 1), line(strings.Repeat("k", 100*api.MaxKey)+"k", 1)},
	} {
		wantChecked(t, l, api.OK)
	}
}

func TestCheckOfKeysThatDoNotRise(t *testing.T) {
	for _, keys := range [][]string{
		{"a", "a"}, {"", ""}, {"b", "a"}, {"a", ""}, {"aa", "a"}, {"b", "aa"},
		{"a", "c", "b"}, {"a", "b", "b"}, {"a", "b", "a"}, {"b", "a", "c"},
	} {
		var l []api.Line
		for _, key := range keys {
			l = append(l, line(key, 1))
		}
		wantChecked(t, l, api.ErrOrder)
	}
}

// Keys go by bytes, whatever they spell.
func TestCheckGoesByBytes(t *testing.T) {
	for _, c := range [][2]string{
		{"B", "a"}, {"10", "9"}, {"z", "é"}, {"\x7f", "\x80"}, {"a", "a\x00"}, {"\xc3\xa9", "\xff"}, {"e\u0301", "é"}, {"\uffff", "\U00010000"},
	} {
		wantChecked(t, []api.Line{line(c[0], 1), line(c[1], 1)}, api.OK)
		wantChecked(t, []api.Line{line(c[1], 1), line(c[0], 1)}, api.ErrOrder)
	}
}

func TestCheckOfLinesWithoutNumbers(t *testing.T) {
	for _, l := range [][]api.Line{
		{line("")}, {line("a")}, {{Key: "a", Nums: []int{}}}, {{Key: "a", Nums: []int{1}[:0]}},
		lines("a= b=1"), lines("a=1 b="), lines("a=1 b= c=1"), lines("a= b="),
	} {
		wantChecked(t, l, api.ErrShape)
	}
}

func TestCheckOfMostLines(t *testing.T) {
	wantChecked(t, rising(0, api.MaxItems-1), api.OK)
	wantChecked(t, rising(0, api.MaxItems), api.OK)
	wantChecked(t, rising(0, api.MaxItems+1), api.ErrFull)
	wantChecked(t, rising(0, 3*api.MaxItems), api.ErrFull)
	wantChecked(t, make([]api.Line, api.MaxItems+1), api.ErrFull)
}

// Numbers are counted line by line, not in all.
func TestCheckOfMostNumbers(t *testing.T) {
	most, over := upTo(api.MaxItems), upTo(api.MaxItems+1)
	wantChecked(t, []api.Line{line("a", most[1:]...)}, api.OK)
	wantChecked(t, []api.Line{line("a", most...)}, api.OK)
	wantChecked(t, []api.Line{line("a", over...)}, api.ErrFull)
	wantChecked(t, []api.Line{line("a", upTo(5*api.MaxItems)...)}, api.ErrFull)
	wantChecked(t, []api.Line{line("a", most...), line("b", most...), line("c", most...)}, api.OK)
	wantChecked(t, []api.Line{line("a", most...), line("b", over...), line("c", most...)}, api.ErrFull)
	wantChecked(t, []api.Line{line("a", most...), line("b", most...), line("c", over...)}, api.ErrFull)
	whole := rising(0, api.MaxItems)
	for i := range whole {
		whole[i].Nums = most
	}
	wantChecked(t, whole, api.OK)
	whole[api.MaxItems-1].Nums = over
	wantChecked(t, whole, api.ErrFull)
}

// Too many lines are told ahead of all that is wrong with one.
func TestTooManyLinesComeFirst(t *testing.T) {
	for _, wrong := range []api.Line{line("0001", 1), line("9999"), line("", 1)} {
		l := rising(0, api.MaxItems+1)
		l[5] = wrong
		wantChecked(t, l, api.ErrFull)
		l = rising(0, api.MaxItems)
		l[5] = wrong
		if wrong.Nums == nil {
			wantChecked(t, l, api.ErrShape)
		} else {
			wantChecked(t, l, api.ErrOrder)
		}
	}
}

// In one line too many numbers come first, then the order, then that there is
// none.
func TestFirstFaultOfOneLine(t *testing.T) {
	over := upTo(api.MaxItems + 1)
	for _, key := range []string{"a", "b"} {
		wantChecked(t, []api.Line{line("b", 1), line(key, over...)}, api.ErrFull)
		wantChecked(t, []api.Line{line("b", 1), line(key)}, api.ErrOrder)
	}
	wantChecked(t, []api.Line{line("b", 1), line("c")}, api.ErrShape)
	wantChecked(t, []api.Line{line("b", 1), line("c", over...)}, api.ErrFull)
}

// Of two wrong lines the first is told, whatever is wrong with it.
func TestFirstFaultOfTwoLines(t *testing.T) {
	over := upTo(api.MaxItems + 1)
	for _, c := range []struct {
		l    []api.Line
		want api.Errno
	}{
		{[]api.Line{line("a"), line("b", over...)}, api.ErrShape},
		{[]api.Line{line("a", over...), line("b")}, api.ErrFull},
		{[]api.Line{line("a"), line("a", 1)}, api.ErrShape},
		{[]api.Line{line("b"), line("a")}, api.ErrShape},
		{[]api.Line{line("b", over...), line("a", 1)}, api.ErrFull},
		{[]api.Line{line("b", over...), line("a")}, api.ErrFull},
		{[]api.Line{line("b", 1), line("a", 1), line("c", over...)}, api.ErrOrder},
		{[]api.Line{line("b", 1), line("a", 1), line("c")}, api.ErrOrder},
		{[]api.Line{line("b", 1), line("c"), line("a", 1)}, api.ErrShape},
		{[]api.Line{line("b", 1), line("c"), line("d", over...)}, api.ErrShape},
		{[]api.Line{line("b", 1), line("c", over...), line("a")}, api.ErrFull},
	} {
		wantChecked(t, c.l, c.want)
	}
}

// A line is held against the one ahead, be that one right or not, and no other
// one: but the first that is wrong is told.
func TestEachLineAgainstTheOneAhead(t *testing.T) {
	for at := 1; at < api.MaxItems; at++ {
		l := rising(0, api.MaxItems)
		l[at].Key = l[at-1].Key
		wantChecked(t, l, api.ErrOrder)
		l[at-1].Nums = nil
		wantChecked(t, l, api.ErrShape)
		l = rising(0, api.MaxItems)
		l[at].Nums = nil
		wantChecked(t, l, api.ErrShape)
	}
}
