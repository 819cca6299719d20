package spread_test

import (
	"fmt"
	"reflect"
	"slices"
	"testing"

	"weirgate/api"
	"weirgate/spread"
)

func TestWhatReadmeTells(t *testing.T) {
	l, err := spread.Even([]string{"a", "b", "c"}, 2)
	wantLists(t, "Even", l, err, "[[a c] [b]]")
	wantEvery(t, l, 2, "[[a c b] [a c b]]")
	wantAgain(t, l, 3, "[[a] [c] [b]]")
	wantLeast(t, []int{3, 8, 5}, 2, "[1 0 1]")
}

// P2 of DOC.md

// named are the calls that answer lists, of lists.
var named = map[string]func(l [][]string, workers int) ([][]string, error){
	"Even":         func(l [][]string, workers int) ([][]string, error) { return spread.Even(l[1], workers) },
	"Again":        spread.Again,
	"Every":        spread.Every,
	"Again of one": func(l [][]string, workers int) ([][]string, error) { return spread.Again(l[1:2], workers) },
	"Every of one": func(l [][]string, workers int) ([][]string, error) { return spread.Every(l[1:2], workers) },
}

func someLists() [][]string { return lists("|d b a c b|a|e f") }

func someLoads() []int { return []int{3, 0, 9, 3, most, 1} }

// callAll calls all four, rightly and wrongly.
func callAll(l [][]string, load []int) {
	for _, workers := range append(noWorkers(), 1, 2, 3, api.Groups) {
		for _, call := range named {
			call(l, workers)
		}
		spread.Least(load, workers)
	}
}

func TestHandedInReadsAsBefore(t *testing.T) {
	l, load := someLists(), someLoads()
	callAll(l, load)
	if !reflect.DeepEqual(l, someLists()) || !slices.Equal(load, someLoads()) {
		t.Errorf("%v and %v became others", l, load)
	}
	full, wrong := [][]string{nil, numbered(api.MaxItems + 1)}, append(someLoads(), noLoads()...)
	callAll(full, wrong)
	if !slices.Equal(full[1], numbered(api.MaxItems+1)) || !slices.Equal(wrong, append(someLoads(), noLoads()...)) {
		t.Errorf("%v and %v became others", full, wrong)
	}
}

// What lies behind a list's length is neither read nor written.
func TestListsWithMoreBehind(t *testing.T) {
	things, loads := []string{"a", "b", "c", "x", "y"}, append(someLoads(), noLoads()...)
	room := [][]string{{"z"}, things[:3], {"d", "e"}, {"x"}, {"y"}}
	l, load := room[:3], loads[:4]
	wantEven(t, l[1], 2, "[[a c] [b]]")
	wantAgain(t, l, 2, "[[z b d] [a c e]]")
	wantEvery(t, l, 2, "[[z a b c d e] [z a b c d e]]")
	wantLeast(t, load, 2, "[1 1 0 1]")
	callAll(l, load)
	if fmt.Sprint(things, room) != "[a b c x y] [[z] [a b c] [d e] [x] [y]]" || !slices.Equal(loads, append(someLoads(), noLoads()...)) {
		t.Errorf("what lies behind became %v, %v, %v", things, room, loads)
	}
}

// spoil writes into all of a list's memory.
func spoil(l []string) {
	l = l[:cap(l)]
	for i := range l {
		l[i] = "spoiled"
	}
}

// No two lists that come out share memory: what is written into one, or behind
// it, does not change another one, nor what was handed in.
func TestListsShareNothing(t *testing.T) {
	for name, call := range named {
		for _, workers := range []int{1, 2, 3, api.Groups} {
			l := someLists()
			want, _ := call(l, workers)
			for worker := range workers {
				got, _ := call(l, workers)
				spoil(got[worker])
				got[worker] = want[worker]
				if !reflect.DeepEqual(got, want) || !reflect.DeepEqual(l, someLists()) {
					t.Errorf("%s by %d, with list %d spoiled, is %v of %v, want %v", name, workers, worker, got, l, want)
				}
			}
		}
	}
}

// What was given out stays, whatever is done with what was handed in, or given
// out by another call.
func TestGivenOutIsTheCallers(t *testing.T) {
	for name, call := range named {
		l := someLists()
		got, _ := call(l, 3)
		before := fmt.Sprint(got)
		other, _ := call(l, 3)
		for i := range other {
			spoil(other[i])
			other[i] = nil
		}
		again, err := call(l, 3)
		wantLists(t, name, again, err, before)
		for i := range l {
			spoil(l[i])
		}
		call(l, 3)
		wantLists(t, name, got, nil, before)
	}
}

func TestWhoIsTheCallers(t *testing.T) {
	load := someLoads()
	got, _ := spread.Least(load, 3)
	before := fmt.Sprint(got)
	other, _ := spread.Least(load, 3)
	other = other[:cap(other)]
	for i := range other {
		other[i] = -99
	}
	wantLeast(t, load, 3, before)
	for i := range load {
		load[i] = 7
	}
	spread.Least(load, 3)
	if fmt.Sprint(got) != before {
		t.Errorf("what was given out became %v, was %s", got, before)
	}
}
