package audit_test

import (
	"math/rand"
	"slices"
	"testing"

	"weirgate/api"
	"weirgate/audit"
	"weirgate/plain"
)

// A second way: nothing is kept by keys; each is looked for anew in what was
// handed in, and each number counted anew.

func secondCheck(l []api.Line) api.Errno {
	if len(l) >= 401 {
		return api.ErrFull
	}
	ahead := ""
	for at := 0; at < len(l); at++ {
		many := 0
		for range l[at].Nums {
			many++
		}
		if many >= 401 {
			return api.ErrFull
		}
		if at >= 1 && !(ahead < l[at].Key) {
			return api.ErrOrder
		}
		if many == 0 {
			return api.ErrShape
		}
		ahead = l[at].Key
	}
	return api.OK
}

func secondCheckBoth(a, b []api.Line) api.Errno {
	if wrong := secondCheck(a); wrong != api.OK {
		return wrong
	}
	return secondCheck(b)
}

// secondNext is the least key of both that is above one; with none, the least
// of all.
func secondNext(a, b []api.Line, above *string) *string {
	var next *string
	for _, l := range [][]api.Line{a, b} {
		for i := range l {
			key := l[i].Key
			if (above == nil || key > *above) && (next == nil || key < *next) {
				next = &key
			}
		}
	}
	return next
}

func secondNums(l []api.Line, key string) ([]int, bool) {
	for _, one := range l {
		if one.Key == key {
			return one.Nums, true
		}
	}
	return nil, false
}

func secondCount(nums []int, num int) int {
	many := 0
	for _, one := range nums {
		if one == num {
			many++
		}
	}
	return many
}

// secondPlace tells what is wrong at a place, if all ahead is right.
func secondPlace(want, got []int, at int) int {
	switch {
	case at >= len(want) && at >= len(got):
		return api.Fine
	case at >= len(want):
		return api.Twice
	case at >= len(got):
		return api.Missing
	case want[at] == got[at]:
		return api.Fine
	}
	crossed := true
	for _, num := range got[at:] {
		crossed = crossed && secondCount(got[at:], num) <= secondCount(want[at:], num)
	}
	if crossed {
		return api.Crossed
	}
	if at >= 1 && want[at-1] == got[at] {
		return api.Twice
	}
	return api.Foreign
}

func secondJudge(want, got []api.Line) (kind int, key string, at int, wrong api.Errno) {
	if wrong := secondCheckBoth(want, got); wrong != api.OK {
		return 0, "", 0, wrong
	}
	for next := secondNext(want, got, nil); next != nil; next = secondNext(want, got, next) {
		wanted, has := secondNums(want, *next)
		written, _ := secondNums(got, *next)
		if !has {
			return api.Foreign, *next, 0, api.OK
		}
		for at := range len(wanted) + len(written) {
			if kind := secondPlace(wanted, written, at); kind != api.Fine {
				return kind, *next, at, api.OK
			}
		}
	}
	return 0, "", 0, api.OK
}

func secondMerge(a, b []api.Line) ([]api.Line, api.Errno) {
	if wrong := secondCheckBoth(a, b); wrong != api.OK {
		return nil, wrong
	}
	var all []api.Line
	for next := secondNext(a, b, nil); next != nil; next = secondNext(a, b, next) {
		first, _ := secondNums(a, *next)
		then, _ := secondNums(b, *next)
		all = append(all, line(*next))
		for _, nums := range [][]int{first, then} {
			all[len(all)-1].Nums = append(all[len(all)-1].Nums, nums...)
		}
	}
	if wrong := secondCheck(all); wrong != api.OK {
		return nil, wrong
	}
	return all, api.OK
}

// secondLess takes from what is wanted, one by one, what was written.
func secondLess(want, got []api.Line) (int, api.Errno) {
	if wrong := secondCheckBoth(want, got); wrong != api.OK {
		return 0, wrong
	}
	less := 0
	for _, one := range want {
		less += len(one.Nums)
	}
	for _, one := range got {
		wanted, _ := secondNums(want, one.Key)
		for at, num := range one.Nums {
			if at >= len(wanted) || wanted[at] != num {
				return 0, api.ErrState
			}
			less--
		}
	}
	return less, api.OK
}

// seen is what came of thrown lines, and how often.
type seen struct {
	kinds, errors, merges, lesses map[int]int
}

func newSeen() seen {
	return seen{map[int]int{}, map[int]int{}, map[int]int{}, map[int]int{}}
}

// bySecondWay holds all calls of two lists of lines.
func (s seen) bySecondWay(t *testing.T, want, got []api.Line) {
	t.Helper()
	checked := plain.Told(audit.Check(got))
	if checked != secondCheck(got) {
		t.Fatalf("Check(%v) is %v", got, checked)
	}
	kind, key, at, err := audit.Judge(want, got)
	isKind, isKey, isAt, wrong := secondJudge(want, got)
	if kind != isKind || key != isKey || at != isAt || plain.Told(err) != wrong {
		t.Fatalf("Judge(%v, %v) is %d, %q, %d, %v, want %d, %q, %d, %v", want, got, kind, key, at, err, isKind, isKey, isAt, wrong)
	}
	all, err := audit.Merge(want, got)
	isAll, merging := secondMerge(want, got)
	if !same(all, isAll) || plain.Told(err) != merging || (err != nil && all != nil) {
		t.Fatalf("Merge(%v, %v) is %v, %v, want %v, %v", want, got, all, err, isAll, merging)
	}
	less, err := audit.Less(want, got)
	isLess, taking := secondLess(want, got)
	if less != isLess || plain.Told(err) != taking {
		t.Fatalf("Less(%v, %v) is %d, %v, want %d, %v", want, got, less, err, isLess, taking)
	}
	s.errors[int(wrong)]++
	s.merges[int(merging)]++
	s.lesses[int(taking)]++
	if wrong == api.OK {
		s.kinds[kind]++
	}
}

// wantSeen holds that each of some was seen often enough.
func wantSeen(t *testing.T, what string, seen map[int]int, often int, all ...int) {
	t.Helper()
	for _, one := range all {
		if seen[one] < often {
			t.Errorf("too few %s were thrown: %v", what, seen)
		}
	}
}

var someKeys = []string{"", "\x00", "10", "9", "A", "a", "a\x00", "ab", "b", "é", "\xff"}

// thrownLines are right: some keys, with numbers of few kinds or of many.
func thrownLines(random *rand.Rand) []api.Line {
	kinds := []int{1, 2, 4, 1000}[random.Intn(4)]
	var l []api.Line
	for _, key := range someKeys {
		if random.Intn(3) > 0 {
			continue
		}
		one := line(key)
		for range 1 + random.Intn(8) {
			one.Nums = append(one.Nums, random.Intn(kinds)-1)
		}
		l = append(l, one)
	}
	return l
}

// ways are those in which right lines become others; each is given lines that
// it may write into, of which there is at least one, and the place of one.
var ways = []func(random *rand.Rand, l []api.Line, at int) []api.Line{
	leftOut, toldTwice, changed, foreign, cutOff, more, keyLeftOut, foreignKey,
}

func leftOut(random *rand.Rand, l []api.Line, at int) []api.Line {
	if len(l[at].Nums) > 1 {
		i := random.Intn(len(l[at].Nums))
		l[at].Nums = slices.Delete(l[at].Nums, i, i+1)
	}
	return l
}

func toldTwice(random *rand.Rand, l []api.Line, at int) []api.Line {
	i := random.Intn(len(l[at].Nums))
	l[at].Nums = slices.Insert(l[at].Nums, i, l[at].Nums[i])
	return l
}

func changed(random *rand.Rand, l []api.Line, at int) []api.Line {
	nums := l[at].Nums
	i, j := random.Intn(len(nums)), random.Intn(len(nums))
	nums[i], nums[j] = nums[j], nums[i]
	return l
}

func foreign(random *rand.Rand, l []api.Line, at int) []api.Line {
	l[at].Nums[random.Intn(len(l[at].Nums))] = random.Intn(6) - 2
	return l
}

func cutOff(random *rand.Rand, l []api.Line, at int) []api.Line {
	l[at].Nums = l[at].Nums[:1+random.Intn(len(l[at].Nums))]
	return l
}

func more(random *rand.Rand, l []api.Line, at int) []api.Line {
	l[at].Nums = append(l[at].Nums, random.Intn(6)-2)
	return l
}

func keyLeftOut(random *rand.Rand, l []api.Line, at int) []api.Line {
	return slices.Delete(l, at, at+1)
}

// foreignKey puts a key more where it is in order, with which another one may
// be.
func foreignKey(random *rand.Rand, l []api.Line, at int) []api.Line {
	key := l[at].Key + []string{"\x00", "!", "z"}[random.Intn(3)]
	if at+1 < len(l) && l[at+1].Key <= key {
		return l
	}
	return slices.Insert(l, at+1, line(key, random.Intn(6)-2))
}

// One fault or a few, or none: what is told is what the second way tells.
func TestThrownFaults(t *testing.T) {
	random := rand.New(rand.NewSource(18))
	s := newSeen()
	for range 30000 {
		want := thrownLines(random)
		got := cloned(want)
		for range []int{0, 1, 1, 1, 2, 4}[random.Intn(6)] {
			if len(got) > 0 {
				got = ways[random.Intn(len(ways))](random, got, random.Intn(len(got)))
			}
		}
		s.bySecondWay(t, want, got)
		s.bySecondWay(t, got, want)
	}
	wantSeen(t, "kinds", s.kinds, 2000, api.Fine, api.Missing, api.Twice, api.Foreign, api.Crossed)
	wantSeen(t, "ways of Less", s.lesses, 2000, int(api.OK), int(api.ErrState))
}

// Lines that have nothing to do with each other.
func TestThrownLinesApart(t *testing.T) {
	random := rand.New(rand.NewSource(19))
	s := newSeen()
	for range 10000 {
		s.bySecondWay(t, thrownLines(random), thrownLines(random))
	}
	wantSeen(t, "kinds", s.kinds, 50, api.Missing, api.Twice, api.Foreign, api.Crossed)
}

// spoilt are lines that may have become wrong ones.
func spoilt(random *rand.Rand, l []api.Line) []api.Line {
	if len(l) == 0 {
		return l
	}
	at := random.Intn(len(l))
	switch random.Intn(6) {
	case 0:
		l[at].Nums = nil
	case 1:
		l[at].Key = l[random.Intn(len(l))].Key
	case 2:
		other := random.Intn(len(l))
		l[at], l[other] = l[other], l[at]
	case 3:
		l[at].Nums = make([]int, api.MaxItems-1+random.Intn(4))
	case 4:
		l = append(l, rising(0, random.Intn(3)*210)...)
	}
	return l
}

func TestThrownWrongLines(t *testing.T) {
	random := rand.New(rand.NewSource(20))
	s := newSeen()
	for range 10000 {
		want := thrownLines(random)
		got := cloned(want)
		for range random.Intn(3) {
			want, got = spoilt(random, got), want
		}
		s.bySecondWay(t, want, got)
	}
	wantSeen(t, "errors", s.errors, 300, int(api.OK), int(api.ErrFull), int(api.ErrOrder), int(api.ErrShape))
}

// thrownMany are many lines or, now and then, such as have many numbers, about
// as many as Merge takes of two such ones.
func thrownMany(random *rand.Rand) []api.Line {
	l := rising(random.Intn(400), 1+random.Intn(api.MaxItems))
	if random.Intn(2) == 0 {
		return l
	}
	l = rising(0, 1+random.Intn(3))
	for i := range l {
		l[i].Nums = upTo(1 + []int{9, 199, 200, 399}[random.Intn(4)] + random.Intn(2))
	}
	return l
}

func TestThrownManyLines(t *testing.T) {
	random := rand.New(rand.NewSource(21))
	s := newSeen()
	for range 300 {
		s.bySecondWay(t, thrownMany(random), thrownMany(random))
	}
	wantSeen(t, "ways of Merge", s.merges, 50, int(api.OK), int(api.ErrFull))
}
