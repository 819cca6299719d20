package audit_test

import (
	"fmt"
	"slices"
	"testing"

	"weirgate/api"
)

// Q1, Judge

// judged is what is told of the lines of two texts.
type judged struct {
	want, got string
	kind      int
	key       string
	at        int
}

func wantAllJudged(t *testing.T, all []judged) {
	t.Helper()
	for _, c := range all {
		wantJudged(t, lines(c.want), lines(c.got), c.kind, c.key, c.at)
	}
}

func TestFine(t *testing.T) {
	wantJudged(t, nil, nil, api.Fine, "", 0)
	wantJudged(t, nil, []api.Line{}, api.Fine, "", 0)
	wantJudged(t, []api.Line{}, nil, api.Fine, "", 0)
	for _, text := range []string{"a=1", "a=0", "a=1,1,1", "a=1,2,3 b=3,2,1", "a=-1 b=0 c=5,5,4,5"} {
		wantJudged(t, lines(text), lines(text), api.Fine, "", 0)
	}
	wantJudged(t, []api.Line{line("", 1, 2)}, []api.Line{line("", 1, 2)}, api.Fine, "", 0)
	l := lines("a=1,2 b=3")
	wantJudged(t, l, l, api.Fine, "", 0)
	full := rising(0, api.MaxItems)
	full[7].Nums = upTo(api.MaxItems)
	wantJudged(t, full, cloned(full), api.Fine, "", 0)
}

func TestForeignKey(t *testing.T) {
	wantAllJudged(t, []judged{
		{"", "a=1", api.Foreign, "a", 0},
		{"", "a=1,2,3 b=1", api.Foreign, "a", 0},
		{"a=1", "a=1 b=1", api.Foreign, "b", 0},
		{"b=1", "a=1 b=1", api.Foreign, "a", 0},
		{"a=1 c=1", "a=1 b=1,1 c=1", api.Foreign, "b", 0},
		{"a=1", "A=1 a=1", api.Foreign, "A", 0},
		{"aa=1", "a=1 aa=1", api.Foreign, "a", 0},
	})
	wantJudged(t, lines("a=1"), []api.Line{line("", 1), line("a", 1)}, api.Foreign, "", 0)
}

func TestForeignNumber(t *testing.T) {
	wantAllJudged(t, []judged{
		{"a=1", "a=2", api.Foreign, "a", 0},
		{"a=1", "a=-1", api.Foreign, "a", 0},
		{"a=1,2,3", "a=9,2,3", api.Foreign, "a", 0},
		{"a=1,2,3", "a=1,9,3", api.Foreign, "a", 1},
		{"a=1,2,3", "a=1,2,9", api.Foreign, "a", 2},
		{"a=1,2,3", "a=1,9", api.Foreign, "a", 1},
		{"a=1,2,3", "a=1,9,2,3", api.Foreign, "a", 1},
		// one that want has, but neither from there on nor at the place ahead
		{"a=1,2,3,4", "a=1,2,1,4", api.Foreign, "a", 2},
		{"a=1,2,3", "a=1,3,9", api.Foreign, "a", 1},
	})
}

func TestCrossed(t *testing.T) {
	wantAllJudged(t, []judged{
		{"a=1,2", "a=2,1", api.Crossed, "a", 0},
		{"a=1,2,3", "a=1,3,2", api.Crossed, "a", 1},
		{"a=1,2,3", "a=3,2,1", api.Crossed, "a", 0},
		{"a=1,1,2,2", "a=2,2,1,1", api.Crossed, "a", 0},
		{"a=1,1,2,2", "a=1,2,1,2", api.Crossed, "a", 1},
		// not all need be there
		{"a=1,2", "a=2", api.Crossed, "a", 0},
		{"a=1,2,3", "a=1,3", api.Crossed, "a", 1},
		{"a=1,2,3,4,5", "a=1,5,3", api.Crossed, "a", 1},
		{"a=1,2,2,3", "a=1,3,2", api.Crossed, "a", 1},
		// even where the number there is that of want's place ahead
		{"a=1,2,1", "a=1,1,2", api.Crossed, "a", 1},
		{"a=1,1,2,1", "a=1,1,1", api.Crossed, "a", 2},
	})
}

// What is one time too many from there on is not among them, wherever else it
// stands.
func TestNotCrossed(t *testing.T) {
	wantAllJudged(t, []judged{
		{"a=1,2", "a=2,2", api.Foreign, "a", 0},
		{"a=1,2", "a=2,1,2", api.Foreign, "a", 0},
		{"a=1,2", "a=2,1,1", api.Foreign, "a", 0},
		{"a=1,2,3", "a=3,2,9", api.Foreign, "a", 0},
		{"a=1,2,3,4", "a=1,3,3", api.Foreign, "a", 1},
		{"a=1,1,2,3", "a=1,1,3,1", api.Foreign, "a", 2},
		{"a=1,2,2,3", "a=1,3,2,2,2", api.Foreign, "a", 1},
		{"a=3,1,2", "a=3,2,3", api.Foreign, "a", 1},
		{"a=3,1,2", "a=3,2,1,3", api.Foreign, "a", 1},
	})
}

func TestTwice(t *testing.T) {
	wantAllJudged(t, []judged{
		{"a=1,2", "a=1,1,2", api.Twice, "a", 1},
		{"a=1,2,3", "a=1,2,2,3", api.Twice, "a", 2},
		{"a=1,2,3", "a=1,1,2,3", api.Twice, "a", 1},
		{"a=1,2,3", "a=1,1,3", api.Twice, "a", 1},
		{"a=1,2,3", "a=1,1", api.Twice, "a", 1},
		{"a=1,2,3", "a=1,2,2,9", api.Twice, "a", 2},
		{"a=1,1,2", "a=1,1,1,2", api.Twice, "a", 2},
		{"a=1,2,1", "a=1,1,2,1", api.Twice, "a", 1},
	})
}

// At the first place none is ahead, whatever stands at the end.
func TestNoneIsAheadOfTheFirst(t *testing.T) {
	wantAllJudged(t, []judged{
		{"a=1,2", "a=3,1,2", api.Foreign, "a", 0},
		{"a=1,0", "a=0,0", api.Foreign, "a", 0},
		{"a=1", "a=0", api.Foreign, "a", 0},
		{"a=1,3", "a=3,3,1", api.Foreign, "a", 0},
		{"a=0,1 b=2", "a=0,1 b=1", api.Foreign, "b", 0},
	})
}

// What is more than want is told twice, whatever it is.
func TestTwiceAtTheEnd(t *testing.T) {
	wantAllJudged(t, []judged{
		{"a=1", "a=1,1", api.Twice, "a", 1},
		{"a=1", "a=1,9", api.Twice, "a", 1},
		{"a=1,2", "a=1,2,1,2", api.Twice, "a", 2},
		{"a=1,2,3", "a=1,2,3,2", api.Twice, "a", 3},
		{"a=1 b=2", "a=1,2 b=2", api.Twice, "a", 1},
	})
	nums := upTo(api.MaxItems)
	wantJudged(t, []api.Line{line("a", nums[:1]...)}, []api.Line{line("a", nums...)}, api.Twice, "a", 1)
	wantJudged(t, []api.Line{line("a", nums[:399]...)}, []api.Line{line("a", nums...)}, api.Twice, "a", 399)
}

func TestMissingNumber(t *testing.T) {
	wantAllJudged(t, []judged{
		{"a=1,2", "a=1", api.Missing, "a", 1},
		{"a=1,1", "a=1", api.Missing, "a", 1},
		{"a=1,2,3,4", "a=1", api.Missing, "a", 1},
		{"a=1,2,3,4", "a=1,2,3", api.Missing, "a", 3},
		{"a=1 b=2,3", "a=1 b=2", api.Missing, "b", 1},
	})
	nums := upTo(api.MaxItems)
	wantJudged(t, []api.Line{line("a", nums...)}, []api.Line{line("a", nums[:399]...)}, api.Missing, "a", 399)
}

func TestMissingKey(t *testing.T) {
	wantAllJudged(t, []judged{
		{"a=1", "", api.Missing, "a", 0},
		{"a=1,2 b=3", "", api.Missing, "a", 0},
		{"a=1 b=1,2", "a=1", api.Missing, "b", 0},
		{"a=1 b=1", "b=1", api.Missing, "a", 0},
		{"a=1 b=1 c=1", "a=1 c=1", api.Missing, "b", 0},
	})
	wantJudged(t, []api.Line{line("", 1), line("a", 1)}, lines("a=1"), api.Missing, "", 0)
	wantJudged(t, rising(0, api.MaxItems), rising(0, api.MaxItems-1), api.Missing, "0399", 0)
}

// Of several things that are wrong the first is told, key by key, whatever it
// is and wherever the key stands: in want, in got, in both.
func TestFirstOfSeveralKeys(t *testing.T) {
	wrong := []judged{
		{"K=1,2", "K=2,1", api.Crossed, "K", 0},
		{"K=1,2,3", "K=1,1,3", api.Twice, "K", 1},
		{"K=1", "K=1,1", api.Twice, "K", 1},
		{"K=1,2", "K=1,9", api.Foreign, "K", 1},
		{"", "K=1", api.Foreign, "K", 0},
		{"K=1,2,3", "K=1,2", api.Missing, "K", 2},
		{"K=1", "", api.Missing, "K", 0},
	}
	for _, first := range wrong {
		for _, then := range wrong {
			want := slices.Concat(lines("a=7"), keyed("b", first.want), lines("c=7"), keyed("d", then.want))
			got := slices.Concat(lines("a=7"), keyed("b", first.got), lines("c=7"), keyed("d", then.got))
			wantJudged(t, want, got, first.kind, "b", first.at)
		}
	}
}

// keyed are the lines of a text, with another key.
func keyed(key, text string) []api.Line {
	l := lines(text)
	for i := range l {
		l[i].Key = key
	}
	return l
}

// In one key the first place at which they differ tells, whatever comes
// behind.
func TestFirstOfSeveralPlaces(t *testing.T) {
	wantAllJudged(t, []judged{
		{"a=1,2,3,4,5", "a=1,2,4,3,9", api.Foreign, "a", 2},
		{"a=1,2,3,4,5", "a=1,1,3,4,9", api.Twice, "a", 1},
		{"a=1,2,3,4,5", "a=2,1,3,4,5", api.Crossed, "a", 0},
		{"a=1,2,3,4,5", "a=2,1,3,4", api.Crossed, "a", 0},
		{"a=1,2,3,4,5", "a=2,1,3,4,5,5", api.Foreign, "a", 0},
		{"a=1,2,3,4,5", "a=1,2,3,9,4,5", api.Foreign, "a", 3},
		{"a=1,2,3,4,5", "a=1,2,3,3,4,5,6", api.Twice, "a", 3},
	})
}

// Of numbers that all differ one fault tells of itself, wherever it is.
func TestEachPlaceOfOneFault(t *testing.T) {
	whole := upTo(9)
	want := []api.Line{line("a", 1), line("k", whole...), line("z", 1)}
	told := func(nums []int, kind, at int) {
		t.Helper()
		wantJudged(t, want, []api.Line{line("a", 1), line("k", nums...), line("z", 1)}, kind, "k", at)
	}
	for at := range whole {
		left := slices.Delete(slices.Clone(whole), at, at+1)
		if at == len(whole)-1 {
			told(left, api.Missing, at)
		} else {
			told(left, api.Crossed, at)
		}
		told(slices.Insert(slices.Clone(whole), at, whole[at]), api.Twice, at+1)
		other := slices.Clone(whole)
		other[at] = -7
		told(other, api.Foreign, at)
		told(slices.Insert(slices.Clone(whole), at, -7), api.Foreign, at)
		for then := at + 1; then < len(whole); then++ {
			crossed := slices.Clone(whole)
			crossed[at], crossed[then] = crossed[then], crossed[at]
			told(crossed, api.Crossed, at)
		}
		if at > 0 {
			told(whole[:at], api.Missing, at)
		}
	}
	told(append(slices.Clone(whole), -7), api.Twice, len(whole))
}

// Of many numbers of few kinds it counts how often each is there.
func TestCrossedOfMost(t *testing.T) {
	var want, got []int
	for i := range api.MaxItems {
		want = append(want, i%2)
		got = append(got, (i+1)%2)
	}
	wantJudged(t, []api.Line{line("a", want...)}, []api.Line{line("a", got...)}, api.Crossed, "a", 0)
	got[api.MaxItems-1] = 1
	wantJudged(t, []api.Line{line("a", want...)}, []api.Line{line("a", got...)}, api.Foreign, "a", 0)
	wantJudged(t, []api.Line{line("a", want...)}, []api.Line{line("a", got[:api.MaxItems-1]...)}, api.Crossed, "a", 0)
	wantJudged(t, []api.Line{line("a", want[1:]...)}, []api.Line{line("a", want...)}, api.Foreign, "a", 0)
}

func TestJudgeOfMostKeys(t *testing.T) {
	want := rising(0, api.MaxItems)
	for i, one := range want {
		got := cloned(want)
		got[i].Nums = []int{-1}
		wantJudged(t, want, got, api.Foreign, one.Key, 0)
		wantJudged(t, want, slices.Delete(cloned(want), i, i+1), api.Missing, one.Key, 0)
		wantJudged(t, slices.Delete(cloned(want), i, i+1), want, api.Foreign, one.Key, 0)
	}
	wantJudged(t, want, rising(api.MaxItems, api.MaxItems), api.Missing, "0000", 0)
	wantJudged(t, rising(api.MaxItems, api.MaxItems), want, api.Foreign, "0000", 0)
}

// Keys are any bytes, and come by them.
func TestJudgeGoesByBytes(t *testing.T) {
	keys := []string{"", "\x00", " ", "10", "9", "B", "a", "a\x00", "e\u0301", "z", "é", "\xff"}
	for i, low := range keys {
		for _, high := range keys[i+1:] {
			wantJudged(t, []api.Line{line(low, 1), line(high, 1)}, nil, api.Missing, low, 0)
			wantJudged(t, nil, []api.Line{line(low, 1), line(high, 1)}, api.Foreign, low, 0)
			wantJudged(t, []api.Line{line(low, 1)}, []api.Line{line(high, 1)}, api.Missing, low, 0)
			wantJudged(t, []api.Line{line(high, 1)}, []api.Line{line(low, 1)}, api.Foreign, low, 0)
		}
	}
}

func TestJudgeOfGreatNumbers(t *testing.T) {
	least, greatest := -1<<63, 1<<63-1
	for _, c := range []struct {
		want, got []int
		kind, at  int
	}{
		{[]int{least, greatest}, []int{least, greatest}, api.Fine, 0},
		{[]int{least, greatest}, []int{greatest, least}, api.Crossed, 0},
		{[]int{least}, []int{greatest}, api.Foreign, 0},
		{[]int{0}, []int{1 << 32}, api.Foreign, 0},
		{[]int{greatest, 0}, []int{greatest, greatest}, api.Twice, 1},
	} {
		key := "a"
		if c.kind == api.Fine {
			key = ""
		}
		wantJudged(t, []api.Line{line("a", c.want...)}, []api.Line{line("a", c.got...)}, c.kind, key, c.at)
	}
}

// What is told of numbers does not hang on which key they are of.
func TestEachKeyByItself(t *testing.T) {
	for i := range 5 {
		want, got := lines("a=1,2 b=1,2 c=1,2 d=1,2 e=1,2"), lines("a=1,2 b=1,2 c=1,2 d=1,2 e=1,2")
		got[i].Nums = []int{2, 1}
		wantJudged(t, want, got, api.Crossed, fmt.Sprintf("%c", 'a'+i), 0)
		got[i].Nums = []int{1, 1}
		wantJudged(t, want, got, api.Twice, fmt.Sprintf("%c", 'a'+i), 1)
	}
}
