package crew_test

import (
	"fmt"
	"reflect"
	"slices"
	"testing"

	"weirgate/api"
	"weirgate/crew"
)

// P2 of DOC.md

func TestHandedInReadsAsBefore(t *testing.T) {
	text := "source 1\nsource 1\nunion 1 0\nsub 2 n\nfold 3 s+n\nsink 4\n"
	for _, workers := range append(someWorkers(), noWorkers()...) {
		l, data := nodes(t, text), [][]api.Record{few(), few()}
		crew.Run(l, data, workers)
		crew.Count(l, data, workers)
		if !reflect.DeepEqual(l, nodes(t, text)) || !reflect.DeepEqual(data, [][]api.Record{few(), few()}) {
			t.Errorf("%v and %v became others", l, data)
		}
	}
}

// What lies behind a list's length is neither read nor written.
func TestListsWithMoreBehind(t *testing.T) {
	spare := func() []api.Record { return append(few(), rec("behind", 7, -1), rec(long(50), 8, 0)) }
	for _, workers := range someWorkers() {
		room := append(nodes(t, "source 1\nunion 0 0\nsink 1\n"), node(11, "x", 9))
		room[1].From = append(room[1].From, 77)[:2]
		data := [][]api.Record{spare()[:6], spare()}
		got, err := crew.Run(room[:3], data[:1], workers)
		want := "[[{0:a [1 5]} {0:b [4 3 4]} {0:c [-2]} {1:a [1 5]} {1:b [4 3 4]} {1:c [-2]}]]"
		if fmt.Sprint(got) != want || err != nil {
			t.Errorf("Run is %v, %v, want %v", got, err, want)
		}
		wantCount(t, room[:3], data[:1], workers, []int{6, 12, 12})
		if !reflect.DeepEqual(data[0][:8], spare()) || !reflect.DeepEqual(data[1], spare()) || room[3].Kind != 11 || room[1].From[:3][2] != 77 {
			t.Errorf("what lies behind became %v, %v", room, data)
		}
	}
}

// What comes out shares nothing: each list of it is spoiled in turn, to the end
// of its memory, and all others stay.
func TestGivenOutIsTheCallers(t *testing.T) {
	l, data := nodes(t, "source 1\nsink 0\nsink 0\nmap 0 n\nsink 3\n"), [][]api.Record{few()}
	for _, workers := range someWorkers() {
		for sink := range 3 {
			for line := range 3 {
				got, _ := crew.Run(l, data, workers)
				want, _ := crew.Run(l, data, workers)
				spoil(got[sink][line].Nums)
				want[sink][line].Nums = got[sink][line].Nums
				if !reflect.DeepEqual(got, want) {
					t.Errorf("other lines became %v, want %v", got, want)
				}
			}
			got, _ := crew.Run(l, data, workers)
			lines := got[sink][:cap(got[sink])]
			for i := range lines {
				lines[i] = api.Line{Key: "spoiled"}
			}
			for i, other := range got {
				if i != sink && fmt.Sprint(other) != "[{a [1 5]} {b [4 3 4]} {c [-2]}]" {
					t.Errorf("other lines became %v", other)
				}
			}
		}
	}
	if !reflect.DeepEqual(data[0], few()) {
		t.Errorf("what was handed in became %v", data)
	}
}

func TestGivenOutStays(t *testing.T) {
	l, data := nodes(t, everyKind), twoLists()
	got, _ := crew.Run(l, data, 5)
	many, _ := crew.Count(l, data, 5)
	before, counts := fmt.Sprint(got), slices.Clone(many)
	other, _ := crew.Count(l, data, 5)
	spoil(other)
	for i := range data {
		for j := range data[i] {
			data[i][j] = rec("spoiled", -9, 0)
		}
	}
	l[2].Text, l[4].From[0] = "n*9", 0
	crew.Run(l, data, 5)
	if fmt.Sprint(got) != before || !slices.Equal(many, counts) {
		t.Errorf("what was given out became %v, %v", got, many)
	}
}

func spoil(l []int) {
	l = l[:cap(l)]
	for i := range l {
		l[i] = 99
	}
}
