package audit_test

import (
	"fmt"
	"slices"
	"strconv"
	"strings"
	"testing"

	"weirgate/api"
	"weirgate/audit"
	"weirgate/plain"
)

// lines are such as stand with blanks between: a key, `=`, and numbers with
// commas between.
func lines(text string) []api.Line {
	var l []api.Line
	for _, word := range strings.Fields(text) {
		key, nums, _ := strings.Cut(word, "=")
		one := api.Line{Key: key}
		for _, num := range strings.FieldsFunc(nums, func(r rune) bool { return r == ',' }) {
			n, err := strconv.Atoi(num)
			if err != nil {
				panic(err)
			}
			one.Nums = append(one.Nums, n)
		}
		l = append(l, one)
	}
	return l
}

func line(key string, nums ...int) api.Line { return api.Line{Key: key, Nums: nums} }

// upTo are the numbers from 0 on, so many.
func upTo(many int) []int {
	var nums []int
	for i := range many {
		nums = append(nums, i)
	}
	return nums
}

// rising are so many lines of one number each, with keys that rise from that of
// the number from on.
func rising(from, many int) []api.Line {
	var l []api.Line
	for i := range many {
		l = append(l, line(fmt.Sprintf("%04d", from+i), i))
	}
	return l
}

// cloned are the same lines in memory of their own.
func cloned(l []api.Line) []api.Line {
	other := slices.Clone(l)
	for i := range other {
		other[i].Nums = slices.Clone(other[i].Nums)
	}
	return other
}

// same tells whether lines are the same, where an empty list is as good as nil.
func same(a, b []api.Line) bool {
	return slices.EqualFunc(a, b, func(a, b api.Line) bool { return a.Key == b.Key && slices.Equal(a.Nums, b.Nums) })
}

func wantChecked(t *testing.T, l []api.Line, want api.Errno) {
	t.Helper()
	if err := audit.Check(l); plain.Told(err) != want {
		t.Errorf("Check(%q) is %v, want %v", short(l), err, want)
	}
}

// short is what a test says of lines, of which there may be many.
func short(l []api.Line) string {
	text := fmt.Sprint(l)
	return text[:min(len(text), 200)]
}

func wantJudged(t *testing.T, want, got []api.Line, kind int, key string, at int) {
	t.Helper()
	if isKind, isKey, isAt, err := audit.Judge(want, got); isKind != kind || isKey != key || isAt != at || err != nil {
		t.Errorf("Judge(%s, %s) is %d, %q, %d, %v, want %d, %q, %d", short(want), short(got), isKind, isKey, isAt, err, kind, key, at)
	}
}

func wantMerged(t *testing.T, a, b, want []api.Line) {
	t.Helper()
	if got, err := audit.Merge(a, b); !same(got, want) || err != nil {
		t.Errorf("Merge(%s, %s) is %s, %v, want %s", short(a), short(b), short(got), err, short(want))
	}
}

func wantLess(t *testing.T, want, got []api.Line, less int) {
	t.Helper()
	if is, err := audit.Less(want, got); is != less || err != nil {
		t.Errorf("Less(%s, %s) is %d, %v, want %d", short(want), short(got), is, err, less)
	}
}

func wantUnmerged(t *testing.T, a, b []api.Line, want api.Errno) {
	t.Helper()
	if got, err := audit.Merge(a, b); got != nil || plain.Told(err) != want {
		t.Errorf("Merge(%s, %s) is %s, %v, want nothing, %v", short(a), short(b), short(got), err, want)
	}
}

func wantNotLess(t *testing.T, want, got []api.Line, wrong api.Errno) {
	t.Helper()
	if is, err := audit.Less(want, got); is != 0 || plain.Told(err) != wrong {
		t.Errorf("Less(%s, %s) is %d, %v, want 0, %v", short(want), short(got), is, err, wrong)
	}
}

// wantRefused holds all three calls of two lists of lines of which one is
// wrong: with an error all other results are empty.
func wantRefused(t *testing.T, a, b []api.Line, want api.Errno) {
	t.Helper()
	if kind, key, at, err := audit.Judge(a, b); kind != 0 || key != "" || at != 0 || plain.Told(err) != want {
		t.Errorf("Judge(%s, %s) is %d, %q, %d, %v, want nothing, %v", short(a), short(b), kind, key, at, err, want)
	}
	wantUnmerged(t, a, b, want)
	wantNotLess(t, a, b, want)
}
