package window_test

import (
	"testing"

	"weirgate/api"
)

// W2, Session

func TestSessionOfFew(t *testing.T) {
	wantSession(t, nil, 5, "[]")
	wantSession(t, []api.Record{}, most, "[]")
	wantSession(t, recs("a:7:3"), 5, "[{a 3 8 1 7 0}]")
	wantSession(t, recs("a:7:3 a:-9:4 a:1:6"), 5, "[{a 3 11 3 -1 0}]")
	wantSession(t, recs("a:7:3 a:-9:4 a:1:16"), 5, "[{a 3 9 2 -2 0} {a 16 21 1 1 0}]")
}

// Less than gap apart they are one, just gap apart two.
func TestSessionApart(t *testing.T) {
	wantSession(t, at(10, 14), 5, "[{a 10 19 2 2 0}]")
	wantSession(t, at(10, 15), 5, "[{a 10 15 1 1 0} {a 15 20 1 1 0}]")
	wantSession(t, at(10, 16), 5, "[{a 10 15 1 1 0} {a 16 21 1 1 0}]")
	wantSession(t, at(10, 10), 5, "[{a 10 15 2 2 0}]")
	wantSession(t, at(10, 10, 10, 14, 14), 5, "[{a 10 19 5 5 0}]")
	wantSession(t, at(0, 4, 8, 12, 16, 20), 5, "[{a 0 25 6 6 0}]") // each behind the one ahead, not the first
	wantSession(t, at(0, 4, 9, 13, 18), 5, "[{a 0 9 2 2 0} {a 9 18 2 2 0} {a 18 23 1 1 0}]")
}

func TestSessionLeastAndMostGap(t *testing.T) {
	wantSession(t, at(3, 4, 4, 5, 3), 1, "[{a 3 4 2 2 0} {a 4 5 2 2 0} {a 5 6 1 1 0}]")
	wantSession(t, at(0, most), 1, "[{a 0 1 1 1 0} {a 1000000 1000001 1 1 0}]")
	wantSession(t, at(0, most), most, "[{a 0 1000000 1 1 0} {a 1000000 2000000 1 1 0}]")
	wantSession(t, at(0, most-1), most, "[{a 0 1999999 2 2 0}]")
	wantSession(t, at(1, most), most, "[{a 1 2000000 2 2 0}]")
	wantSession(t, at(0, 1, most), most, "[{a 0 2000000 3 3 0}]")
	wantSession(t, at(0, most), most-1, "[{a 0 999999 1 1 0} {a 1000000 1999999 1 1 0}]")
}

// All orders of five records come to the same: none is late.
func TestSessionInAnyOrder(t *testing.T) {
	l := recs("a:1:0 a:2:4 b:4:2 a:8:9 a:16:12")
	want := "[{a 0 9 2 3 0} {a 9 17 2 24 0} {b 2 7 1 4 0}]"
	var orders func(done, rest []api.Record)
	orders = func(done, rest []api.Record) {
		if len(rest) == 0 {
			wantSession(t, done, 5, want)
		}
		for i := range rest {
			left := append(append([]api.Record{}, rest[:i]...), rest[i+1:]...)
			orders(append(append([]api.Record{}, done...), rest[i]), left)
		}
	}
	orders(nil, l)
}

func TestSessionOfSeveralKeys(t *testing.T) {
	wantSession(t, recs("b:1:10 a:2:11 b:3:12 c:4:100 a:5:13 b:6:90"), 3, "[{a 11 16 2 7 0} {b 10 15 2 4 0} {b 90 93 1 6 0} {c 100 103 1 4 0}]")
	// The last of one key and the first of the next are near each other.
	wantSession(t, recs("a:1:5 b:2:6 a:3:5 b:4:6"), 9, "[{a 5 14 2 4 0} {b 6 15 2 6 0}]")
	l := []api.Record{rec("b", 1, 7), rec("\xff", 2, 7), rec("", 3, 7), rec("é", 4, 7), rec("B", 5, 7), rec("ba", 6, 7), rec("\x00", 7, 7), rec("b", 8, 1000), rec("b", 9, 90)}
	wantSession(t, l, 3, "[{ 7 10 1 3 0} {\x00 7 10 1 7 0} {B 7 10 1 5 0} {b 7 10 1 1 0} {b 90 93 1 9 0} {b 1000 1003 1 8 0} {ba 7 10 1 6 0} {é 7 10 1 4 0} {\xff 7 10 1 2 0}]")
}
