package window_test

import (
	"fmt"
	"reflect"
	"testing"

	"weirgate/api"
	"weirgate/window"
)

func TestWhatReadmeTells(t *testing.T) {
	l := recs("a:5:7 a:2:16 a:1:4")
	wantSlide(t, l, 10, 10, 5, "[{a 0 10 1 5 1} {a 10 20 1 2 0}]")
	wantSlide(t, l, 10, 5, 5, "[{a 0 10 1 5 1} {a 5 15 1 5 0} {a 10 20 1 2 0} {a 15 25 1 2 0}]")
	wantSession(t, l, 4, "[{a 4 11 2 6 0} {a 16 20 1 2 0}]")
	wantMarks(t, [][]api.Record{l, l[:2]}, 5, "[0 2 2 11 11]")
}

// P2 of DOC.md

// outOfOrder are records that each call would have to move or let go.
func outOfOrder() []api.Record {
	return recs("d:13:26 c:-3:21 a:2:29 c:13:18 d:-5:6 a:9:0 b:1:29")
}

// callAll calls all four, rightly and wrongly.
func callAll(l []api.Record, inputs [][]api.Record) {
	for _, n := range append(noSpans(), 1, 3, 9, most) {
		window.Slide(l, n, 3, 2)
		window.Slide(l, 9, n, 2)
		window.Slide(l, 9, 3, n)
		window.Tumble(l, n, 2)
		window.Session(l, n)
		window.Marks(inputs, n)
	}
}

func TestHandedInReadsAsBefore(t *testing.T) {
	inputs := func() [][]api.Record { return [][]api.Record{nil, outOfOrder(), {}, outOfOrder()[:3]} }
	l, lists := outOfOrder(), inputs()
	callAll(l, lists)
	if !reflect.DeepEqual(l, outOfOrder()) || !reflect.DeepEqual(lists, inputs()) {
		t.Errorf("%v and %v became others", l, lists)
	}
	wrong := append(outOfOrder(), noRecords()...)
	callAll(wrong, [][]api.Record{wrong, nil})
	if !reflect.DeepEqual(wrong, append(outOfOrder(), noRecords()...)) {
		t.Errorf("%v became others", wrong)
	}
}

// What lies behind a list's length is neither read nor written.
func TestListsWithMoreBehind(t *testing.T) {
	spare := func() []api.Record { return append(outOfOrder(), noRecords()...) }
	room := [][]api.Record{nil, spare()[:7], spare()[:2], spare(), spare()}
	l := room[1]
	wantSlide(t, l, 10, 10, 5, "[{a 0 10 0 0 1} {a 20 30 1 2 0} {b 20 30 1 1 0} {c 10 20 0 0 1} {c 20 30 1 -3 0} {d 0 10 0 0 1} {d 20 30 1 13 0}]")
	wantSession(t, l, 4, "[{a 0 4 1 9 0} {a 29 33 1 2 0} {b 29 33 1 1 0} {c 18 25 2 10 0} {d 6 10 1 -5 0} {d 26 30 1 13 0}]")
	wantMarks(t, room[:3], 1, "[0 25 25 25 25 25 25 25 25]")
	callAll(l, room[:3])
	if !reflect.DeepEqual(room[1][:14], spare()) || !reflect.DeepEqual(room[2][:14], spare()) || !reflect.DeepEqual(room[3:], [][]api.Record{spare(), spare()}) {
		t.Errorf("what lies behind became %v", room)
	}
}

// What was given out stays, whatever is done with what was handed in, or given
// out by another call.
func TestGivenOutIsTheCallers(t *testing.T) {
	for i, call := range []func(l []api.Record) ([]api.Pane, error){
		func(l []api.Record) ([]api.Pane, error) { return window.Slide(l, 9, 3, 4) },
		func(l []api.Record) ([]api.Pane, error) { return window.Tumble(l, 9, 4) },
		func(l []api.Record) ([]api.Pane, error) { return window.Session(l, 4) },
	} {
		l := outOfOrder()
		got, _ := call(l)
		before := fmt.Sprint(got)
		other, _ := call(l)
		other = other[:cap(other)]
		for at := range other {
			other[at] = api.Pane{Key: "spoiled"}
		}
		if again, _ := call(l); fmt.Sprint(again) != before {
			t.Errorf("call %d is %v, was %s", i, again, before)
		}
		for at := range l {
			l[at] = rec("spoiled", 99, 99)
		}
		call(l)
		if fmt.Sprint(got) != before {
			t.Errorf("what call %d gave out became %v, was %s", i, got, before)
		}
	}
}

func TestMarksGivenOutAreTheCallers(t *testing.T) {
	l := [][]api.Record{outOfOrder(), outOfOrder()[2:]}
	got, _ := window.Marks(l, 2)
	before := fmt.Sprint(got)
	other, _ := window.Marks(l, 2)
	other = other[:cap(other)]
	for at := range other {
		other[at] = -99
	}
	wantMarks(t, l, 2, before)
	l[0][0].Time, l[1] = most, at(1)
	window.Marks(l, 2)
	if fmt.Sprint(got) != before {
		t.Errorf("what was given out became %v, was %s", got, before)
	}
}

// How a map is gone through makes no difference.
func TestSameEachTime(t *testing.T) {
	var l []api.Record
	for i := range api.MaxItems {
		l = append(l, rec(string(rune('a'+i*7%26)), i, i*37%500))
	}
	first, _ := window.Slide(l, 48, 3, 100)
	for range 20 {
		if again, _ := window.Slide(l, 48, 3, 100); !reflect.DeepEqual(again, first) {
			t.Fatalf("Slide is %v, was %v", again, first)
		}
	}
}
