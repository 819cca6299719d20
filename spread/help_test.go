package spread_test

import (
	"fmt"
	"strconv"
	"strings"
	"testing"

	"weirgate/api"
	"weirgate/plain"
	"weirgate/spread"
)

const (
	least    = -1 << 63
	greatest = 1<<63 - 1
	most     = api.MaxTime
)

// lists are such as stand between bars, things with blanks between.
func lists(text string) [][]string {
	var l [][]string
	for _, part := range strings.Split(text, "|") {
		l = append(l, strings.Fields(part))
	}
	return l
}

// numbered are so many things that all differ.
func numbered(many int) []string {
	var l []string
	for i := range many {
		l = append(l, strconv.Itoa(i))
	}
	return l
}

// alike are so many loads of one size.
func alike(many, load int) []int {
	var l []int
	for range many {
		l = append(l, load)
	}
	return l
}

// noWorkers are such numbers of workers that cannot be.
func noWorkers() []int {
	return []int{0, -1, -api.Groups, least, least + 1, api.Groups + 1, 1 << 32, 1<<32 + 1, 1 << 60, greatest}
}

// noLoads are such as no load can be.
func noLoads() []int {
	return []int{-1, -most, least, least + 1, most + 1, 1 << 32, 1 << 60, greatest}
}

func wantLists(t *testing.T, call string, got [][]string, err error, want string) {
	t.Helper()
	if fmt.Sprint(got) != want || err != nil {
		t.Errorf("%s is %v, %v, want %s", call, got, err, want)
	}
}

// wantEven holds Even, and Again of the same things as one list.
func wantEven(t *testing.T, l []string, workers int, want string) {
	t.Helper()
	got, err := spread.Even(l, workers)
	wantLists(t, fmt.Sprintf("Even(%q, %d)", l, workers), got, err, want)
	wantAgain(t, [][]string{l}, workers, want)
}

func wantAgain(t *testing.T, l [][]string, workers int, want string) {
	t.Helper()
	got, err := spread.Again(l, workers)
	wantLists(t, fmt.Sprintf("Again(%q, %d)", l, workers), got, err, want)
}

func wantEvery(t *testing.T, l [][]string, workers int, want string) {
	t.Helper()
	got, err := spread.Every(l, workers)
	wantLists(t, fmt.Sprintf("Every(%q, %d)", l, workers), got, err, want)
}

func wantLeast(t *testing.T, load []int, workers int, want string) {
	t.Helper()
	if got, err := spread.Least(load, workers); fmt.Sprint(got) != want || err != nil {
		t.Errorf("Least(%v, %d) is %v, %v, want %s", load, workers, got, err, want)
	}
}

// wantError holds what a call told; with an error nothing else is told.
func wantError(t *testing.T, call string, many int, err error, want api.Errno) {
	t.Helper()
	if plain.Told(err) != want || (err == nil) != (want == api.OK) || (err != nil && many > 0) {
		t.Errorf("%s tells %d, %v, want %v", call, many, err, want)
	}
}

func evenTells(t *testing.T, l []string, workers int, want api.Errno) {
	t.Helper()
	got, err := spread.Even(l, workers)
	wantError(t, fmt.Sprintf("Even(of %d, %d)", len(l), workers), len(got), err, want)
}

// listsTell holds Again and Every.
func listsTell(t *testing.T, l [][]string, workers int, want api.Errno) {
	t.Helper()
	got, err := spread.Again(l, workers)
	wantError(t, fmt.Sprintf("Again(of %d lists, %d)", len(l), workers), len(got), err, want)
	got, err = spread.Every(l, workers)
	wantError(t, fmt.Sprintf("Every(of %d lists, %d)", len(l), workers), len(got), err, want)
}

func leastTells(t *testing.T, load []int, workers int, want api.Errno) {
	t.Helper()
	got, err := spread.Least(load, workers)
	wantError(t, fmt.Sprintf("Least(of %d, %d)", len(load), workers), len(got), err, want)
}
