package window_test

import (
	"fmt"
	"testing"

	"weirgate/api"
	"weirgate/window"
)

// W1, Slide and Tumble

func TestSlideOfFew(t *testing.T) {
	wantSlide(t, nil, 6, 3, 0, "[]")
	wantSlide(t, []api.Record{}, 6, 6, 0, "[]")
	wantSlide(t, recs("a:5:7"), 6, 3, 0, "[{a 3 9 1 5 0} {a 6 12 1 5 0}]")
	wantSlide(t, recs("a:5:7 a:6:7 a:-9:8"), 6, 3, 0, "[{a 3 9 3 2 0} {a 6 12 3 2 0}]")
	wantSlide(t, recs("b:5:7 a:6:7 b:-9:10"), 6, 3, 0, "[{a 3 9 1 6 0} {a 6 12 1 6 0} {b 3 9 1 5 0} {b 6 12 2 -4 0} {b 9 15 1 -9 0}]")
}

// From the first time on, below the last.
func TestSlideAtEdgesOfPane(t *testing.T) {
	for _, c := range []struct {
		time int
		want string
	}{
		{0, "[{a 0 10 1 1 0}]"},
		{4, "[{a 0 10 1 1 0}]"},
		{5, "[{a 0 10 1 1 0} {a 5 15 1 1 0}]"},
		{9, "[{a 0 10 1 1 0} {a 5 15 1 1 0}]"},
		{10, "[{a 5 15 1 1 0} {a 10 20 1 1 0}]"},
		{most - 1, "[{a 999990 1000000 1 1 0} {a 999995 1000005 1 1 0}]"},
		{most, "[{a 999995 1000005 1 1 0} {a 1000000 1000010 1 1 0}]"},
	} {
		wantSlide(t, at(c.time), 10, 5, 0, c.want)
		wantSlide(t, at(c.time), 10, 5, most, c.want)
	}
	wantSlide(t, at(9, 10, 19, 20), 10, 10, 0, "[{a 0 10 1 1 0} {a 10 20 2 2 0} {a 20 30 1 1 0}]")
}

// Panes begin at 0 at the least: none reaches over it, however long they are.
func TestSlideAtZeroAndMost(t *testing.T) {
	wantSlide(t, at(0), 1, 1, 0, "[{a 0 1 1 1 0}]")
	wantSlide(t, at(0), most, most, 0, "[{a 0 1000000 1 1 0}]")
	wantSlide(t, at(0), most, most/16, 0, "[{a 0 1000000 1 1 0}]")
	wantSlide(t, at(most), 1, 1, 0, "[{a 1000000 1000001 1 1 0}]")
	wantSlide(t, at(most), most, most, 0, "[{a 1000000 2000000 1 1 0}]")
	wantSlide(t, at(0, most-1, most), most, most, 0, "[{a 0 1000000 2 2 0} {a 1000000 2000000 1 1 0}]")
	wantSlide(t, at(most), most, most/2, 0, "[{a 500000 1500000 1 1 0} {a 1000000 2000000 1 1 0}]")
	wantSlide(t, at(most), 1, most, 0, "[{a 1000000 1000001 1 1 0}]")
	wantSlide(t, at(most-1), 1, most, 0, "[]")
	wantSlide(t, at(most), 2, 3, 0, "[{a 999999 1000001 1 1 0}]")
}

func TestSlideBy(t *testing.T) {
	l := at(0, 1, 2, 3, 4, 5, 6, 7)
	wantSlide(t, l, 4, 1, 0, "[{a 0 4 4 4 0} {a 1 5 4 4 0} {a 2 6 4 4 0} {a 3 7 4 4 0} {a 4 8 4 4 0} {a 5 9 3 3 0} {a 6 10 2 2 0} {a 7 11 1 1 0}]")
	wantSlide(t, l, 4, 3, 0, "[{a 0 4 4 4 0} {a 3 7 4 4 0} {a 6 10 2 2 0}]")
	wantSlide(t, l, 4, 4, 0, "[{a 0 4 4 4 0} {a 4 8 4 4 0}]")
	wantSlide(t, l, 3, 3, 0, "[{a 0 3 3 3 0} {a 3 6 3 3 0} {a 6 9 2 2 0}]")
	wantSlide(t, l, 1, 1, 0, "[{a 0 1 1 1 0} {a 1 2 1 1 0} {a 2 3 1 1 0} {a 3 4 1 1 0} {a 4 5 1 1 0} {a 5 6 1 1 0} {a 6 7 1 1 0} {a 7 8 1 1 0}]")
	wantSlide(t, l, 2, 5, 0, "[{a 0 2 2 2 0} {a 5 7 2 2 0}]") // 2, 3, 4 and 7 lie in none
	wantSlide(t, at(2, 3, 4, 7, 9), 2, 5, 0, "[]")
	wantSlide(t, at(3, 4), 3, 4, 0, "[{a 4 7 1 1 0}]")
}

// A record lies in 16 panes, where by goes 16 times into size, and that far
// from 0.
func TestSlideMostPanes(t *testing.T) {
	for _, by := range []int{1, 2, 7, 1000, most / 16} {
		for _, time := range []int{15 * by, 16*by - 1, 16 * by} {
			got, err := window.Slide(at(time), 16*by, by, 0)
			if len(got) != 16 || err != nil {
				t.Errorf("at %d, by %d there are %v, %v", time, by, got, err)
			}
			for i, p := range got {
				from := (time/by - 15 + i) * by
				if want := (api.Pane{Key: "a", From: from, To: from + 16*by, Many: 1, Sum: 1}); p != want {
					t.Errorf("at %d, by %d there is %v, want %v", time, by, p, want)
				}
			}
		}
		if got, err := window.Slide(at(15*by-1), 16*by, by, 0); len(got) != 15 || err != nil {
			t.Errorf("by %d there are %v, %v", by, got, err)
		}
	}
}

// Bytes, not runes or lengths, and then numbers, not digits.
func TestSlideOrder(t *testing.T) {
	l := []api.Record{
		rec("b", 1, 100), rec("\xff", 2, 100), rec("", 3, 100), rec("é", 4, 100), rec("B", 5, 100), rec("ba", 6, 100), rec("\x00", 7, 100),
		rec("b", 8, 90), rec("b", 9, 1000), rec("a", 10, 99),
	}
	want := "[{ 100 110 1 3 0} {\x00 100 110 1 7 0} {B 100 110 1 5 0} {a 90 100 1 10 0} {b 90 100 1 8 0} {b 100 110 1 1 0} {b 1000 1010 1 9 0} {ba 100 110 1 6 0} {é 100 110 1 4 0} {\xff 100 110 1 2 0}]"
	for i := range l {
		wantSlide(t, append(append([]api.Record{}, l[i:]...), l[:i]...), 10, 10, 2000, want)
	}
}

// A pane is closed once the mark is its To.
func TestSlideCloses(t *testing.T) {
	for _, c := range []struct {
		first, slack int
		want         string
	}{
		{19, 10, "[{a 0 10 1 1 0} {a 10 20 1 1 0}]"}, // the mark is 9
		{20, 10, "[{a 0 10 0 0 1} {a 20 30 1 1 0}]"}, // the mark is 10
		{21, 10, "[{a 0 10 0 0 1} {a 20 30 1 1 0}]"},
		{9, 0, "[{a 0 10 2 2 0}]"},
		{10, 0, "[{a 0 10 0 0 1} {a 10 20 1 1 0}]"},
		{10, 1, "[{a 0 10 1 1 0} {a 10 20 1 1 0}]"},
		{most, most, "[{a 0 10 1 1 0} {a 1000000 1000010 1 1 0}]"},
		{most, most - 9, "[{a 0 10 1 1 0} {a 1000000 1000010 1 1 0}]"},
		{most, most - 10, "[{a 0 10 0 0 1} {a 1000000 1000010 1 1 0}]"},
	} {
		for _, time := range []int{0, 5, 9} {
			wantSlide(t, at(c.first, time), 10, 10, c.slack, c.want)
		}
	}
}

// The mark is that ahead of the record, and of all keys together.
func TestSlideMarkIsOfAllKeys(t *testing.T) {
	wantSlide(t, recs("a:1:25 b:2:5 c:3:25"), 10, 10, 0, "[{a 20 30 1 1 0} {b 0 10 0 0 1} {c 20 30 1 3 0}]")
	wantSlide(t, recs("b:2:5 a:1:25 c:3:25"), 10, 10, 0, "[{a 20 30 1 1 0} {b 0 10 1 2 0} {c 20 30 1 3 0}]")
	wantSlide(t, recs("b:2:5 a:1:25 b:4:5"), 10, 10, 0, "[{a 20 30 1 1 0} {b 0 10 1 2 1}]")
}

// A record that lies in no pane moves the mark as others do.
func TestSlideMarkIsOfAllRecords(t *testing.T) {
	wantSlide(t, at(9, 0), 2, 5, 0, "[{a 0 2 0 0 1}]")
	wantSlide(t, at(0, 9, 1), 2, 5, 0, "[{a 0 2 1 1 1}]")
	wantSlide(t, at(0, 9, 1), 2, 5, 7, "[{a 0 2 1 1 1}]")
	wantSlide(t, at(0, 9, 1), 2, 5, 8, "[{a 0 2 2 2 0}]")
}

// A late record does not take the mark back, and one below slack does not
// take it below 0.
func TestSlideMarkStays(t *testing.T) {
	wantSlide(t, at(20, 1, 9, 15, 19), 10, 10, 5, "[{a 0 10 0 0 2} {a 10 20 2 2 0} {a 20 30 1 1 0}]")
	wantSlide(t, at(25, 1, 15, 19, 25), 10, 10, 5, "[{a 0 10 0 0 1} {a 10 20 0 0 2} {a 20 30 2 2 0}]")
	wantSlide(t, at(0, 3, 0, 1), 1, 1, 5, "[{a 0 1 2 2 0} {a 1 2 1 1 0} {a 3 4 1 1 0}]")
	wantSlide(t, at(0, 0, 0), 1, 1, 0, "[{a 0 1 3 3 0}]")
	wantSlide(t, at(0, 1, 0), 1, 1, 0, "[{a 0 1 1 1 1} {a 1 2 1 1 0}]")
}

func TestSlideLateForSome(t *testing.T) {
	wantSlide(t, recs("a:5:20 a:7:11"), 12, 4, 2, "[{a 0 12 0 0 1} {a 4 16 0 0 1} {a 8 20 1 7 0} {a 12 24 1 5 0} {a 16 28 1 5 0} {a 20 32 1 5 0}]")
	wantSlide(t, recs("a:5:20 a:7:11"), 12, 4, 9, "[{a 0 12 1 7 0} {a 4 16 1 7 0} {a 8 20 1 7 0} {a 12 24 1 5 0} {a 16 28 1 5 0} {a 20 32 1 5 0}]")
	wantSlide(t, recs("a:5:3 a:6:20 a:7:3 a:8:1"), 12, 4, 8, "[{a 0 12 1 5 2} {a 12 24 1 6 0} {a 16 28 1 6 0} {a 20 32 1 6 0}]")
}

func TestSlideAllLate(t *testing.T) {
	wantSlide(t, recs("z:1:900 a:5:20 a:6:25 b:7:20"), 10, 10, 0, "[{a 20 30 0 0 2} {b 20 30 0 0 1} {z 900 910 1 1 0}]")
	wantSlide(t, recs("z:1:900 a:5:20"), 4, 2, 10, "[{a 18 22 0 0 1} {a 20 24 0 0 1} {z 898 902 1 1 0} {z 900 904 1 1 0}]")
}

// Out of order by slack at most, and by more.
func TestSlideOutOfOrder(t *testing.T) {
	wantSlide(t, at(8, 5, 11, 8, 10, 13), 1, 1, 2, "[{a 5 6 0 0 1} {a 8 9 1 1 1} {a 10 11 1 1 0} {a 11 12 1 1 0} {a 13 14 1 1 0}]")
	wantSlide(t, at(8, 5, 11, 8, 10, 13), 1, 1, 3, "[{a 5 6 1 1 0} {a 8 9 2 2 0} {a 10 11 1 1 0} {a 11 12 1 1 0} {a 13 14 1 1 0}]")
	wantSlide(t, at(8, 5, 11, 8, 10, 13), 3, 3, 0, "[{a 3 6 0 0 1} {a 6 9 1 1 1} {a 9 12 2 2 0} {a 12 15 1 1 0}]")
}

func TestSlideSum(t *testing.T) {
	for _, c := range []struct {
		nums []int
		want int
	}{
		{[]int{greatest}, greatest},
		{[]int{least}, least},
		{[]int{greatest, 1}, least},
		{[]int{least, -1}, greatest},
		{[]int{least, least}, 0},
		{[]int{greatest, greatest}, -2},
		{[]int{least, greatest}, -1},
		{[]int{greatest, 1, least}, 0},
	} {
		var l []api.Record
		for _, num := range c.nums {
			l = append(l, rec("a", num, 3))
		}
		many := len(l)
		wantSlide(t, l, 4, 2, 0, fmt.Sprintf("[{a 0 4 %d %d 0} {a 2 6 %d %d 0}]", many, c.want, many, c.want))
		wantSlide(t, l, 4, 4, 0, fmt.Sprintf("[{a 0 4 %d %d 0}]", many, c.want))
		wantSession(t, l, 2, fmt.Sprintf("[{a 3 5 %d %d 0}]", many, c.want))
	}
	// What is late is not in it.
	wantSlide(t, recs("a:7:0 a:1:9 a:9223372036854775807:0"), 4, 4, 5, "[{a 0 4 1 7 1} {a 8 12 1 1 0}]")
}

func TestTumbleIsSlideBySize(t *testing.T) {
	l := recs("c:-3:21 d:13:26 a:2:29 c:13:18 d:-5:6 a:0:0 b:7:1000000 a:1:30 a:2:999999")
	for _, size := range append(noSpans(), 1, 2, 3, 5, 8, 29, 30, 31, most-1, most) {
		for _, slack := range append(noSlacks(), 0, 1, 3, 10, most) {
			want, wrong := window.Slide(l, size, size, slack)
			got, err := window.Tumble(l, size, slack)
			if fmt.Sprint(got, err) != fmt.Sprint(want, wrong) {
				t.Errorf("Tumble(.., %d, %d) is %v, %v, want %v, %v", size, slack, got, err, want, wrong)
			}
		}
	}
}
