package audit_test

import (
	"testing"

	"weirgate/api"
)

// Q2, Merge

func TestMerge(t *testing.T) {
	for _, c := range [][3]string{
		{"", "", ""},
		{"a=1", "", "a=1"},
		{"", "a=1", "a=1"},
		{"a=1,2 b=3", "", "a=1,2 b=3"},
		{"", "a=1,2 b=3", "a=1,2 b=3"},
		{"a=1", "b=2", "a=1 b=2"},
		{"b=2", "a=1", "a=1 b=2"},
		{"a=1", "a=2", "a=1,2"},
		{"a=2", "a=1", "a=2,1"},
		{"a=1", "a=1", "a=1,1"},
		{"a=3,1,2", "a=2,3", "a=3,1,2,2,3"},
		{"a=1 c=3", "b=2 d=4", "a=1 b=2 c=3 d=4"},
		{"b=2 d=4", "a=1 c=3", "a=1 b=2 c=3 d=4"},
		{"a=1,2 b=5 d=9", "a=3 c=7,7 d=8", "a=1,2,3 b=5 c=7,7 d=9,8"},
		{"d=9,8 e=1", "a=3 d=8,9", "a=3 d=9,8,8,9 e=1"},
		{"A=1 a=2", "a=3 aa=4", "A=1 a=2,3 aa=4"},
	} {
		wantMerged(t, lines(c[0]), lines(c[1]), lines(c[2]))
	}
	wantMerged(t, []api.Line{}, []api.Line{}, nil)
	wantMerged(t, []api.Line{line("", 1)}, []api.Line{line("", 2), line("\x00", 3)}, []api.Line{line("", 1, 2), line("\x00", 3)})
}

func TestMergedKeysRiseByBytes(t *testing.T) {
	keys := []string{"", "\x00", " ", "10", "9", "B", "a", "a\x00", "e\u0301", "z", "é", "\xff"}
	for _, low := range keys {
		for _, high := range keys {
			a, b := []api.Line{line(low, 1)}, []api.Line{line(high, 2)}
			switch {
			case low == high:
				wantMerged(t, a, b, []api.Line{line(low, 1, 2)})
			case low < high:
				wantMerged(t, a, b, []api.Line{a[0], b[0]})
			default:
				wantMerged(t, a, b, []api.Line{b[0], a[0]})
			}
		}
	}
}

// Keys are counted once, those of both too.
func TestMergeOfMostLines(t *testing.T) {
	for _, c := range []struct {
		many, from, behind int
		want               api.Errno
	}{
		{200, 200, 200, api.OK},
		{200, 200, 201, api.ErrFull},
		{201, 201, 200, api.ErrFull},
		{399, 399, 1, api.OK},
		{400, 400, 1, api.ErrFull},
		{1, 1, 400, api.ErrFull},
		{400, 0, 400, api.OK},
		{400, 399, 1, api.OK},
		{400, 1, 400, api.ErrFull},
		{300, 200, 200, api.OK},
		{300, 200, 201, api.ErrFull},
		{400, 0, 0, api.OK},
		{400, 400, 400, api.ErrFull},
	} {
		a, b := rising(0, c.many), rising(c.from, c.behind)
		for _, both := range [][2][]api.Line{{a, b}, {b, a}} {
			if c.want != api.OK {
				wantUnmerged(t, both[0], both[1], c.want)
				continue
			}
			var want []api.Line
			for i := range max(c.many, c.from+c.behind) {
				want = append(want, line(rising(i, 1)[0].Key))
				for _, l := range both {
					for _, one := range l {
						if one.Key == want[i].Key {
							want[i].Nums = append(want[i].Nums, one.Nums...)
						}
					}
				}
			}
			wantMerged(t, both[0], both[1], want)
		}
	}
}

// Numbers are counted of each key by itself.
func TestMergeOfMostNumbers(t *testing.T) {
	nums := upTo(2 * api.MaxItems)
	for _, first := range []int{1, 2, 200, 399} {
		a, b := nums[:first], nums[first:api.MaxItems]
		wantMerged(t, []api.Line{line("k", a...)}, []api.Line{line("k", b...)}, []api.Line{line("k", nums[:api.MaxItems]...)})
		more := nums[first : api.MaxItems+1]
		wantUnmerged(t, []api.Line{line("k", a...)}, []api.Line{line("k", more...)}, api.ErrFull)
		wantUnmerged(t, []api.Line{line("k", more...)}, []api.Line{line("k", a...)}, api.ErrFull)
		wantUnmerged(t, []api.Line{line("a", 1), line("k", a...)}, []api.Line{line("k", more...), line("z", 1)}, api.ErrFull)
	}
	full := []api.Line{line("a", nums[:api.MaxItems]...), line("c", nums[:api.MaxItems]...)}
	other := []api.Line{line("b", nums[:api.MaxItems]...), line("d", nums[:api.MaxItems]...)}
	wantMerged(t, full, other, []api.Line{full[0], other[0], full[1], other[1]})
	wantMerged(t, full, nil, full)
	wantUnmerged(t, full, full, api.ErrFull)
	wantUnmerged(t, full, lines("a=1"), api.ErrFull)
	wantUnmerged(t, full, lines("c=1"), api.ErrFull)
	wantUnmerged(t, lines("a=1"), full, api.ErrFull)
}

// What was merged has all numbers of both, in their order, so that what is put
// behind the beginning of lines makes them whole.
func TestMergeOfBeginningAndRest(t *testing.T) {
	whole := lines("a=1,2,3 b=1 c=4,4,4,4 d=0,5")
	for cut := range 5 {
		var begun, rest []api.Line
		for _, one := range whole {
			at := min(cut, len(one.Nums))
			if at > 0 {
				begun = append(begun, line(one.Key, one.Nums[:at]...))
			}
			if at < len(one.Nums) {
				rest = append(rest, line(one.Key, one.Nums[at:]...))
			}
		}
		wantMerged(t, begun, rest, whole)
		wantLess(t, whole, begun, many(rest))
	}
}

func many(l []api.Line) int {
	all := 0
	for _, one := range l {
		all += len(one.Nums)
	}
	return all
}
