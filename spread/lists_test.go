package spread_test

import (
	"fmt"
	"slices"
	"strings"
	"testing"

	"weirgate/api"
	"weirgate/spread"
)

// S1, Even

func TestEvenKnown(t *testing.T) {
	wantEven(t, strings.Fields("a"), 1, "[[a]]")
	wantEven(t, strings.Fields("c a b"), 1, "[[c a b]]")
	wantEven(t, strings.Fields("a b c d e"), 2, "[[a c e] [b d]]")
	wantEven(t, strings.Fields("e d c b a"), 2, "[[e c a] [d b]]")
	wantEven(t, strings.Fields("a b"), 3, "[[a] [b] []]")
	wantEven(t, strings.Fields("b a c"), 3, "[[b] [a] [c]]")
	wantEven(t, strings.Fields("a b c d"), 3, "[[a d] [b] [c]]")
	wantEven(t, strings.Fields("a b c d e f g"), 3, "[[a d g] [b e] [c f]]")
	wantEven(t, numbered(15), 16, "[[0] [1] [2] [3] [4] [5] [6] [7] [8] [9] [10] [11] [12] [13] [14] []]")
	wantEven(t, numbered(16), 16, "[[0] [1] [2] [3] [4] [5] [6] [7] [8] [9] [10] [11] [12] [13] [14] [15]]")
	wantEven(t, numbered(18), 16, "[[0 16] [1 17] [2] [3] [4] [5] [6] [7] [8] [9] [10] [11] [12] [13] [14] [15]]")
}

// Where there is no thing there are as many lists as workers, all the same.
func TestEvenOfNone(t *testing.T) {
	for workers := 1; workers <= api.Groups; workers++ {
		want := "[" + strings.TrimSpace(strings.Repeat("[] ", workers)) + "]"
		wantEven(t, nil, workers, want)
		wantEven(t, []string{}, workers, want)
		wantAgain(t, nil, workers, want)
		wantAgain(t, [][]string{}, workers, want)
		wantAgain(t, [][]string{nil, {}, nil}, workers, want)
		wantEvery(t, nil, workers, want)
		wantEvery(t, [][]string{}, workers, want)
		wantEvery(t, [][]string{nil, {}, nil}, workers, want)
	}
}

func TestEvenOfThingsAlike(t *testing.T) {
	wantEven(t, strings.Fields("a a a a"), 3, "[[a a] [a] [a]]")
	wantEven(t, strings.Fields("b a b a b"), 2, "[[b b b] [a a]]")
	wantEven(t, strings.Fields("a a b b a a"), 4, "[[a a] [a a] [b] [b]]")
}

// A thing is any text: none of them is left out, or read.
func TestThingsOfAnyBytes(t *testing.T) {
	things := []string{"", " ", "\x00", "é", "\xff\xfe", "a b|c", strings.Repeat("k", 1000), ""}
	even, _ := spread.Even(things, 2)
	again, _ := spread.Again([][]string{things[:5], things[5:]}, 2)
	every, _ := spread.Every([][]string{things[:5], things[5:]}, 2)
	for worker := range 2 {
		for i := range 4 {
			if even[worker][i] != things[2*i+worker] || again[worker][i] != things[2*i+worker] {
				t.Errorf("of %q there are %q, %q", things, even, again)
			}
		}
		if !slices.Equal(every[worker], things) {
			t.Errorf("of %q there are %q", things, every)
		}
	}
}

// S1, Again

func TestAgainKnown(t *testing.T) {
	wantAgain(t, lists("a c e|b d"), 1, "[[a c e b d]]")
	wantAgain(t, lists("a c e|b d"), 2, "[[a e d] [c b]]")
	wantAgain(t, lists("a c e|b d"), 3, "[[a b] [c d] [e]]")
	wantAgain(t, lists("|a||b c d e f g|h|"), 3, "[[a d g] [b e h] [c f]]")
	wantAgain(t, lists("|||a"), 2, "[[a] []]")
	wantAgain(t, lists("a|b|c"), 4, "[[a] [b] [c] []]")
	wantAgain(t, lists("b a|a b|b a"), 2, "[[b a b] [a b a]]")
}

// What was spread and is spread again has all its things, whatever the numbers
// of workers.
func TestAgainOfEven(t *testing.T) {
	things := numbered(40)
	for before := 1; before <= api.Groups; before++ {
		even, _ := spread.Even(things, before)
		for behind := 1; behind <= api.Groups; behind++ {
			got, err := spread.Again(even, behind)
			want, _ := spread.Even(slices.Concat(even...), behind)
			wantLists(t, fmt.Sprintf("Again(%v, %d)", even, behind), got, err, fmt.Sprint(want))
			back := slices.Concat(got...)
			slices.Sort(back)
			if !slices.Equal(back, slices.Sorted(slices.Values(things))) {
				t.Errorf("Again(%v, %d) has other things: %v", even, behind, got)
			}
		}
	}
}

// S1, Every

func TestEveryKnown(t *testing.T) {
	wantEvery(t, lists("a"), 1, "[[a]]")
	wantEvery(t, lists("b a c"), 2, "[[b a c] [b a c]]")
	wantEvery(t, lists("a c e|b d"), 1, "[[a c e b d]]")
	wantEvery(t, lists("a c e|b d"), 3, "[[a c e b d] [a c e b d] [a c e b d]]")
	wantEvery(t, lists("|b b||a|"), 2, "[[b b a] [b b a]]")
	want := "[" + strings.TrimSpace(strings.Repeat("[c a b a] ", 16)) + "]"
	wantEvery(t, lists("c|a b|a"), 16, want)
}
