package audit_test

import (
	"testing"

	"weirgate/api"
	"weirgate/audit"
	"weirgate/plain"
)

// What Check says of lines the other calls say too: of the first ones, then of
// the second ones.

// wrongLines are lines of each error.
func wrongLines() map[api.Errno][][]api.Line {
	over := upTo(api.MaxItems + 1)
	return map[api.Errno][][]api.Line{
		api.ErrFull:  {rising(0, api.MaxItems+1), {line("a", over...)}, {line("a", 1), line("b", over...)}, {line("b", 1), line("a", over...)}},
		api.ErrOrder: {lines("a=1 a=1"), lines("b=1 a=1"), lines("a=1 c=1 b=1"), lines("b=1 a="), lines("b=1 a=1 c=")},
		api.ErrShape: {lines("a="), lines("a=1 b="), lines("a= a=1"), {line("a"), line("b", over...)}, {{Nums: []int{}}}},
	}
}

// rightLines are such against which nothing is to be said.
func rightLines() [][]api.Line {
	return [][]api.Line{nil, {}, lines("a=1"), lines("a=1,2 b=3"), {line("", 1)}, rising(0, api.MaxItems), {line("a", upTo(api.MaxItems)...)}}
}

func TestFaultsOfOne(t *testing.T) {
	for want, all := range wrongLines() {
		for _, wrong := range all {
			wantChecked(t, wrong, want)
			for _, right := range rightLines() {
				wantChecked(t, right, api.OK)
				wantRefused(t, wrong, right, want)
				wantRefused(t, right, wrong, want)
			}
		}
	}
}

func TestFaultsOfBoth(t *testing.T) {
	for want, all := range wrongLines() {
		for _, others := range wrongLines() {
			for _, wrong := range all {
				for _, other := range others {
					wantRefused(t, wrong, other, want)
				}
			}
		}
	}
}

// What is wrong with lines is told ahead of what they would make.
func TestFaultsAheadOfTheRest(t *testing.T) {
	full := []api.Line{line("a", upTo(api.MaxItems)...)}
	wantRefused(t, full, lines("a=1 a=1"), api.ErrOrder)
	wantRefused(t, full, lines("a=1,1 b="), api.ErrShape)
	wantRefused(t, rising(0, api.MaxItems), []api.Line{line("a", 1), line("b")}, api.ErrShape)
	wantRefused(t, lines("a=1"), lines("b=1 c="), api.ErrShape)
	wantRefused(t, lines("a=1 b="), lines("a=2"), api.ErrShape)
	wantRefused(t, lines("b=1 a=1"), lines("c=2"), api.ErrOrder)
}

// The same lines on both sides are held as any others.
func TestWrongLinesAgainstThemselves(t *testing.T) {
	for want, all := range wrongLines() {
		for _, wrong := range all {
			wantRefused(t, wrong, wrong, want)
		}
	}
}

// Where nothing is wrong the error is nil, not OK.
func TestNoErrorIsNil(t *testing.T) {
	for _, l := range rightLines() {
		err := audit.Check(l)
		_, _, _, judging := audit.Judge(l, l)
		_, merging := audit.Merge(l, nil)
		_, taking := audit.Less(l, l)
		for _, one := range []error{err, judging, merging, taking} {
			if one != nil || plain.Told(one) != api.OK {
				t.Errorf("of %s it is %v", short(l), one)
			}
		}
	}
}
