package audit_test

import (
	"reflect"
	"testing"

	"weirgate/api"
	"weirgate/audit"
)

func TestWhatReadmeTells(t *testing.T) {
	want := lines("a=1,2,3 b=7")
	wantChecked(t, want, api.OK)
	wantJudged(t, want, lines("a=1,2,2,3 b=7"), api.Twice, "a", 2)
	wantJudged(t, want, want, api.Fine, "", 0)
	part, rest := lines("a=1,2"), lines("a=3 b=7")
	wantMerged(t, part, rest, want)
	wantLess(t, want, part, 2)
	wantNotLess(t, want, rest, api.ErrState)
}

// P2 of DOC.md

// callAll calls all four, of two lists of lines in either order and of each by
// itself.
func callAll(a, b []api.Line) {
	for _, both := range [][2][]api.Line{{a, b}, {b, a}, {a, a}, {b, b}} {
		audit.Check(both[0])
		audit.Judge(both[0], both[1])
		audit.Merge(both[0], both[1])
		audit.Less(both[0], both[1])
	}
}

// somePairs are lines that are handed in, right and wrong ones.
func somePairs() [][2][]api.Line {
	all := [][2][]api.Line{
		{lines("a=3,1,2 b=5,5 d=1"), lines("a=3,2,1 c=4 d=1")},
		{lines("b=2,1 d=4"), lines("a=9 b=2 c=3,3 e=1")},
		{lines("a=1,2,3"), lines("a=1,2")},
		{lines("c=1 b=2 a=3"), lines("a=2,1 a=1")},
		{lines("a=3,1 b="), rising(0, api.MaxItems+1)},
		{rising(0, api.MaxItems), rising(200, api.MaxItems)},
	}
	return append(all, [2][]api.Line{{line("a", upTo(api.MaxItems)...)}, {line("a", upTo(api.MaxItems+1)...)}})
}

func TestHandedInReadsAsBefore(t *testing.T) {
	before := somePairs()
	for i, both := range somePairs() {
		callAll(both[0], both[1])
		if !reflect.DeepEqual(both, before[i]) {
			t.Errorf("%s and %s became others", short(both[0]), short(both[1]))
		}
	}
}

// What lies behind a list's length is neither read nor written: lines, and the
// numbers of one.
func TestListsWithMoreBehind(t *testing.T) {
	first, then := []int{1, 2, 3, 9, 9}, []int{1, 2, 8, 8}
	a := []api.Line{{Key: "a", Nums: first[:3]}, line("b", 4), line("b"), line("a", upTo(500)...)}
	b := []api.Line{{Key: "a", Nums: then[:2]}, line("0", 7)}
	beforeA, beforeB := cloned(a), cloned(b)
	want, got := a[:2], b[:1]
	wantChecked(t, want, api.OK)
	wantChecked(t, got, api.OK)
	wantJudged(t, want, got, api.Missing, "a", 2)
	wantJudged(t, got, want, api.Twice, "a", 2)
	wantMerged(t, want, got, lines("a=1,2,3,1,2 b=4"))
	wantMerged(t, got, want, lines("a=1,2,1,2,3 b=4"))
	wantLess(t, want, got, 2)
	wantNotLess(t, got, want, api.ErrState)
	callAll(want, got)
	callAll(a[:0], b)
	if !same(a, beforeA) || !same(b, beforeB) || !reflect.DeepEqual(first, []int{1, 2, 3, 9, 9}) || !reflect.DeepEqual(then, []int{1, 2, 8, 8}) {
		t.Errorf("what lies behind became %v, %v, %v, %v", short(a), short(b), first, then)
	}
}

// spoil writes into all of a list's memory.
func spoil(nums []int) {
	nums = nums[:cap(nums)]
	for i := range nums {
		nums[i] = -99
	}
}

// spoilAll writes into all memory of lines.
func spoilAll(l []api.Line) {
	for _, one := range l {
		spoil(one.Nums)
	}
	l = l[:cap(l)]
	for i := range l {
		l[i] = line("spoiled", -99)
	}
}

// mergeable are pairs of lines that Merge takes: keys of one alone, of both.
func mergeable() [][2][]api.Line {
	return [][2][]api.Line{
		{lines("a=3,1,2 b=5,5 d=1"), nil},
		{nil, lines("a=3,1,2 b=5,5 d=1")},
		{lines("a=3,1,2 b=5,5 d=1"), lines("a=3,2,1 c=4 d=1")},
		{lines("b=1 d=2"), lines("a=3 c=4,4,4")},
		{rising(0, 300), rising(100, 300)},
	}
}

// No two lists that come out share memory: what is written into one, or behind
// it, does not change another one, nor what was handed in.
func TestMergedListsShareNothing(t *testing.T) {
	for i, both := range mergeable() {
		want, _ := audit.Merge(both[0], both[1])
		for at := range want {
			got, _ := audit.Merge(both[0], both[1])
			spoil(got[at].Nums)
			got[at].Nums = want[at].Nums
			if !reflect.DeepEqual(got, want) || !reflect.DeepEqual(both, mergeable()[i]) {
				t.Fatalf("with line %d spoiled there are %s, of %s and %s", at, short(got), short(both[0]), short(both[1]))
			}
		}
	}
	l := lines("a=1,2 b=3")
	got, _ := audit.Merge(l, l)
	spoilAll(got)
	wantMerged(t, l, l, lines("a=1,2,1,2 b=3,3"))
}

// What was given out stays, whatever is done with what was handed in, or given
// out by another call.
func TestMergedIsTheCallers(t *testing.T) {
	for _, both := range mergeable() {
		got, _ := audit.Merge(both[0], both[1])
		before := cloned(got)
		other, _ := audit.Merge(both[0], both[1])
		spoilAll(other)
		wantMerged(t, both[0], both[1], before)
		spoilAll(both[0])
		spoilAll(both[1])
		callAll(both[0], both[1])
		if !same(got, before) {
			t.Errorf("what was given out became %s, was %s", short(got), short(before))
		}
	}
}

// Where one list of lines stands on both sides, or holds pieces of one memory,
// it is read as any other.
func TestOneMemoryOnBothSides(t *testing.T) {
	nums := []int{1, 2, 1, 2}
	l := []api.Line{{Key: "a", Nums: nums}, {Key: "b", Nums: nums[:2]}, {Key: "c", Nums: nums[1:]}}
	wantJudged(t, l, l, api.Fine, "", 0)
	wantLess(t, l, l[:2], 3)
	wantMerged(t, l, l, lines("a=1,2,1,2,1,2,1,2 b=1,2,1,2 c=2,1,2,2,1,2"))
	if !reflect.DeepEqual(nums, []int{1, 2, 1, 2}) {
		t.Errorf("the numbers became %v", nums)
	}
}
