package window_test

import (
	"fmt"
	"strconv"
	"strings"
	"testing"

	"weirgate/api"
	"weirgate/plain"
	"weirgate/window"
)

const (
	least    = -1 << 63
	greatest = 1<<63 - 1
	most     = api.MaxTime
)

func rec(key string, num, time int) api.Record { return api.Record{Key: key, Num: num, Time: time} }

// recs are records as key:num:time, with blanks between.
func recs(text string) []api.Record {
	var l []api.Record
	for _, word := range strings.Fields(text) {
		part := strings.Split(word, ":")
		num, wrong := strconv.Atoi(part[1])
		time, bad := strconv.Atoi(part[2])
		if wrong != nil || bad != nil {
			panic(word)
		}
		l = append(l, rec(part[0], num, time))
	}
	return l
}

// at are records of one key at these times, each with Num 1.
func at(times ...int) []api.Record {
	var l []api.Record
	for _, time := range times {
		l = append(l, rec("a", 1, time))
	}
	return l
}

// times are so many records of one key, at 0, 1, ...
func times(many int) []api.Record {
	var l []api.Record
	for time := range many {
		l = append(l, rec("a", 1, time))
	}
	return l
}

func long(many int) string { return strings.Repeat("k", many) }

// noRecords are such as cannot be.
func noRecords() []api.Record {
	return []api.Record{
		rec(long(api.MaxKey+1), 0, 0), rec(long(1000), 0, 0),
		rec("a", 0, -1), rec("a", 0, -most), rec("a", 0, least),
		rec("a", 0, most+1), rec("a", 0, greatest),
	}
}

// noSpans are such as no size, by or gap can be.
func noSpans() []int {
	return []int{0, -1, -most, least, least + 1, most + 1, 1 << 32, 1<<32 + 1, 1 << 60, greatest}
}

// noSlacks are such as no slack can be.
func noSlacks() []int { return []int{-1, -most, least, least + 1, most + 1, 1 << 32, greatest} }

func wantPanes(t *testing.T, call string, got []api.Pane, err error, want string) {
	t.Helper()
	if fmt.Sprint(got) != want || err != nil {
		t.Errorf("%s is %v, %v, want %s", call, got, err, want)
	}
}

// wantSlide holds Slide, and Tumble too where they are the same, against what
// it is to print: Key, From, To, Many, Sum, Late of each pane.
func wantSlide(t *testing.T, l []api.Record, size, by, slack int, want string) {
	t.Helper()
	got, err := window.Slide(l, size, by, slack)
	wantPanes(t, fmt.Sprintf("Slide(%v, %d, %d, %d)", l, size, by, slack), got, err, want)
	if size == by {
		got, err = window.Tumble(l, size, slack)
		wantPanes(t, fmt.Sprintf("Tumble(%v, %d, %d)", l, size, slack), got, err, want)
	}
}

func wantSession(t *testing.T, l []api.Record, gap int, want string) {
	t.Helper()
	got, err := window.Session(l, gap)
	wantPanes(t, fmt.Sprintf("Session(%v, %d)", l, gap), got, err, want)
}

func wantMarks(t *testing.T, l [][]api.Record, slack int, want string) {
	t.Helper()
	if got, err := window.Marks(l, slack); fmt.Sprint(got) != want || err != nil {
		t.Errorf("Marks(%v, %d) is %v, %v, want %s", l, slack, got, err, want)
	}
}

// wantError holds what a call told; with an error nothing else is told.
func wantError(t *testing.T, call string, many int, err error, want api.Errno) {
	t.Helper()
	if plain.Told(err) != want || (err == nil) != (want == api.OK) || (err != nil && many > 0) {
		t.Errorf("%s tells %d, %v, want %v", call, many, err, want)
	}
}

func slideTells(t *testing.T, l []api.Record, size, by, slack int, want api.Errno) {
	t.Helper()
	got, err := window.Slide(l, size, by, slack)
	wantError(t, fmt.Sprintf("Slide(of %d, %d, %d, %d)", len(l), size, by, slack), len(got), err, want)
}

func tumbleTells(t *testing.T, l []api.Record, size, slack int, want api.Errno) {
	t.Helper()
	got, err := window.Tumble(l, size, slack)
	wantError(t, fmt.Sprintf("Tumble(of %d, %d, %d)", len(l), size, slack), len(got), err, want)
}

func sessionTells(t *testing.T, l []api.Record, gap int, want api.Errno) {
	t.Helper()
	got, err := window.Session(l, gap)
	wantError(t, fmt.Sprintf("Session(of %d, %d)", len(l), gap), len(got), err, want)
}

func marksTell(t *testing.T, l [][]api.Record, slack int, want api.Errno) {
	t.Helper()
	got, err := window.Marks(l, slack)
	wantError(t, fmt.Sprintf("Marks(of %d, %d)", len(l), slack), len(got), err, want)
}
