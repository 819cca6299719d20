package group_test

import (
	"hash/fnv"
	"math"
	"slices"
	"strings"
	"testing"

	"weirgate/api"
	"weirgate/group"
	"weirgate/plain"
)

// badWorkers are numbers that workers cannot be, nor splits. Those near powers
// of two would come back into range, were they multiplied ahead of a check.
func badWorkers() []int {
	return []int{math.MinInt, math.MinInt + 1, -api.Groups, -1, 0, api.Groups + 1, 1 << 32, 1<<32 + 1, 1 << 60, math.MaxInt - 1, math.MaxInt}
}

func wantError(t *testing.T, err error, want api.Errno) {
	t.Helper()
	if got := plain.Told(err); got != want {
		t.Errorf("error is %v, want %v", err, want)
	}
}

// G1

func TestOfKnownKeys(t *testing.T) {
	for _, c := range []struct {
		key  string
		want int
	}{
		{"", 9},
		{"a", 0}, {"b", 9}, {"c", 14}, {"d", 15}, {"e", 12},
		{"foobar", 4}, {"a/1", 5}, {"0:a", 8}, {" ", 3},
		{"\x00", 3}, {"\x7f", 2},
		{"\x80", 4}, {"\xff", 5}, {"\x80\xff", 9},
		{strings.Repeat("\xff", api.MaxKey), 2},
		{"w\xc3\xb6rter", 1}, {"ключ", 5},
		{strings.Repeat("k", 1000), 14},
	} {
		if got := group.Of(c.key); got != c.want {
			t.Errorf("Of(%q) is %d, want %d", c.key, got, c.want)
		}
	}
}

// The sum of G1 is the one that hash/fnv has as New32a.
func sumGroup(key string) int {
	h := fnv.New32a()
	h.Write([]byte(key))
	x := int(h.Sum32())
	return (x/65536 ^ x) % 16
}

func TestOfEachByte(t *testing.T) {
	for b := range 256 {
		one := string([]byte{byte(b)})
		for _, key := range []string{one, "a" + one, one + "a", one + one, strings.Repeat(one, 41)} {
			if got, want := group.Of(key), sumGroup(key); got != want {
				t.Errorf("Of(%q) is %d, want %d", key, got, want)
			}
		}
	}
}

func TestOfHitsEachGroup(t *testing.T) {
	var hit [api.Groups]bool
	for b := range 256 {
		g := group.Of(string([]byte{byte(b)}))
		if g < 0 || g >= api.Groups {
			t.Fatalf("group %d of byte %d is none", g, b)
		}
		hit[g] = true
	}
	for g, ok := range hit {
		if !ok {
			t.Errorf("no byte is of group %d", g)
		}
	}
}

// G2: workers

func TestIsWorkers(t *testing.T) {
	for p := 1; p <= api.Groups; p++ {
		if !group.IsWorkers(p) {
			t.Errorf("IsWorkers(%d) is false", p)
		}
	}
	for _, p := range badWorkers() {
		if group.IsWorkers(p) {
			t.Errorf("IsWorkers(%d) is true", p)
		}
	}
}

// G2: Range

// roundedUp is the least number that is, times p, i times Groups or more.
func roundedUp(p, i int) int {
	x := 0
	for x*p < i*api.Groups {
		x++
	}
	return x
}

func TestRangeKnown(t *testing.T) {
	for _, c := range []struct{ p, i, low, high int }{
		{3, 0, 0, 6}, {3, 1, 6, 11}, {3, 2, 11, 16},
		{1, 0, 0, 16},
		{16, 0, 0, 1}, {16, 7, 7, 8}, {16, 15, 15, 16},
		{2, 0, 0, 8}, {2, 1, 8, 16},
		{15, 0, 0, 2}, {15, 14, 15, 16},
		{11, 2, 3, 5}, {7, 6, 14, 16},
	} {
		low, high, err := group.Range(c.p, c.i)
		wantError(t, err, api.OK)
		if low != c.low || high != c.high {
			t.Errorf("Range(%d, %d) is %d, %d, want %d, %d", c.p, c.i, low, high, c.low, c.high)
		}
	}
}

func TestRangeOfAll(t *testing.T) {
	for p := 1; p <= api.Groups; p++ {
		for i := range p {
			low, high, err := group.Range(p, i)
			wantError(t, err, api.OK)
			if low != roundedUp(p, i) || high != roundedUp(p, i+1) {
				t.Errorf("Range(%d, %d) is %d, %d, want %d, %d", p, i, low, high, roundedUp(p, i), roundedUp(p, i+1))
			}
		}
	}
}

func wantNoRange(t *testing.T, p, i int) {
	t.Helper()
	low, high, err := group.Range(p, i)
	wantError(t, err, api.ErrRange)
	if low != 0 || high != 0 {
		t.Errorf("Range(%d, %d) is %d, %d with an error", p, i, low, high)
	}
}

func TestRangeErrors(t *testing.T) {
	for _, p := range badWorkers() {
		for _, i := range []int{0, 1, -1, p, p - 1, math.MinInt, math.MaxInt} {
			wantNoRange(t, p, i)
		}
	}
	for p := 1; p <= api.Groups; p++ {
		for _, i := range []int{-1, -p, p, p + 1, api.Groups, math.MinInt, math.MinInt + 1, 1 << 60, math.MaxInt - 1, math.MaxInt} {
			wantNoRange(t, p, i)
		}
	}
}

// G2: Owner

func TestOwnerKnown(t *testing.T) {
	for _, c := range []struct{ p, g, want int }{
		{3, 6, 1}, {3, 5, 0}, {3, 10, 1}, {3, 11, 2}, {3, 0, 0}, {3, 15, 2},
		{1, 0, 0}, {1, 15, 0},
		{16, 0, 0}, {16, 8, 8}, {16, 15, 15},
		{2, 7, 0}, {2, 8, 1},
	} {
		got, err := group.Owner(c.p, c.g)
		wantError(t, err, api.OK)
		if got != c.want {
			t.Errorf("Owner(%d, %d) is %d, want %d", c.p, c.g, got, c.want)
		}
	}
}

func TestOwnerHasItsRange(t *testing.T) {
	for p := 1; p <= api.Groups; p++ {
		for i := range p {
			low, high, _ := group.Range(p, i)
			for g := low; g < high; g++ {
				got, err := group.Owner(p, g)
				wantError(t, err, api.OK)
				if got != i {
					t.Errorf("Owner(%d, %d) is %d, want %d", p, g, got, i)
				}
			}
		}
	}
}

func wantNoOwner(t *testing.T, p, g int) {
	t.Helper()
	got, err := group.Owner(p, g)
	wantError(t, err, api.ErrRange)
	if got != 0 {
		t.Errorf("Owner(%d, %d) is %d with an error", p, g, got)
	}
}

func TestOwnerErrors(t *testing.T) {
	for _, p := range badWorkers() {
		for _, g := range []int{0, 1, api.Groups - 1, -1, api.Groups, math.MinInt, math.MaxInt} {
			wantNoOwner(t, p, g)
		}
	}
	for p := 1; p <= api.Groups; p++ {
		for _, g := range []int{-1, api.Groups, api.Groups + 1, math.MinInt, math.MinInt + 1, 1 << 60, math.MaxInt - 1, math.MaxInt} {
			wantNoOwner(t, p, g)
		}
	}
}

// G2: Moves

// moves of rows: group, from, to.
func moves(rows ...[3]int) []api.Move {
	var l []api.Move
	for _, r := range rows {
		l = append(l, api.Move{Group: r[0], From: r[1], To: r[2]})
	}
	return l
}

func TestMovesKnown(t *testing.T) {
	var half, back, last [][3]int
	for g := 8; g <= 15; g++ {
		half = append(half, [3]int{g, 0, 1})
		back = append(back, [3]int{g, 1, 0})
	}
	for g := 1; g <= 15; g++ {
		last = append(last, [3]int{g, g - 1, g})
	}
	for _, c := range []struct {
		p, q int
		want []api.Move
	}{
		{1, 2, moves(half...)},
		{2, 1, moves(back...)},
		{15, 16, moves(last...)},
		{2, 3, moves([3]int{6, 0, 1}, [3]int{7, 0, 1}, [3]int{11, 1, 2}, [3]int{12, 1, 2}, [3]int{13, 1, 2}, [3]int{14, 1, 2}, [3]int{15, 1, 2})},
	} {
		got, err := group.Moves(c.p, c.q)
		wantError(t, err, api.OK)
		if !slices.Equal(got, c.want) {
			t.Errorf("Moves(%d, %d) is %v, want %v", c.p, c.q, got, c.want)
		}
	}
}

func TestMovesOfAll(t *testing.T) {
	for p := 1; p <= api.Groups; p++ {
		for q := 1; q <= api.Groups; q++ {
			var want []api.Move
			for g := range api.Groups {
				from, _ := group.Owner(p, g)
				to, _ := group.Owner(q, g)
				if from != to {
					want = append(want, api.Move{Group: g, From: from, To: to})
				}
			}
			got, err := group.Moves(p, q)
			wantError(t, err, api.OK)
			if !slices.Equal(got, want) {
				t.Errorf("Moves(%d, %d) is %v, want %v", p, q, got, want)
			}
		}
	}
}

func TestMovesToAsManyIsNone(t *testing.T) {
	for p := 1; p <= api.Groups; p++ {
		got, err := group.Moves(p, p)
		wantError(t, err, api.OK)
		if len(got) != 0 {
			t.Errorf("Moves(%d, %d) is %v, want none", p, p, got)
		}
	}
}

func TestMovesErrors(t *testing.T) {
	for _, bad := range badWorkers() {
		for _, other := range []int{1, 2, api.Groups, bad, 0, math.MinInt, math.MaxInt} {
			for _, c := range [][2]int{{bad, other}, {other, bad}} {
				got, err := group.Moves(c[0], c[1])
				wantError(t, err, api.ErrRange)
				if len(got) != 0 {
					t.Errorf("Moves(%d, %d) is %v with an error", c[0], c[1], got)
				}
			}
		}
	}
}

// P2: what comes out is the caller's.
func TestMovesAreFresh(t *testing.T) {
	first, _ := group.Moves(1, 2)
	second, _ := group.Moves(1, 2)
	whole := first[:cap(first)]
	for i := range whole {
		whole[i] = api.Move{Group: -1, From: -1, To: -1}
	}
	third, _ := group.Moves(1, 2)
	want := api.Move{Group: 8, From: 0, To: 1}
	if second[0] != want || third[0] != want {
		t.Errorf("a changed list shows in others: %v, %v", second, third)
	}
}

// G2: Split

func TestSplitKnown(t *testing.T) {
	for _, c := range []struct {
		key          string
		splits, want int
	}{
		{"", 1, 0}, {"", 2, 1}, {"", 8, 1}, {"", 5, 4},
		{"a", 8, 0}, {"b", 7, 2}, {"c", 4, 2}, {"d", 8, 7}, {"e", 5, 2},
		{"d", 1, 0}, {"\xff", 8, 5}, {"\x80", 3, 1},
	} {
		got, err := group.Split(c.key, c.splits)
		wantError(t, err, api.OK)
		if got != c.want {
			t.Errorf("Split(%q, %d) is %d, want %d", c.key, c.splits, got, c.want)
		}
	}
}

func TestSplitOfAll(t *testing.T) {
	for b := range 256 {
		key := string([]byte{byte(b)})
		for splits := 1; splits <= api.MaxSplit; splits++ {
			got, err := group.Split(key, splits)
			wantError(t, err, api.OK)
			if want := group.Of(key) % splits; got != want {
				t.Errorf("Split(%q, %d) is %d, want %d", key, splits, got, want)
			}
		}
	}
}

func TestSplitErrors(t *testing.T) {
	for _, key := range []string{"", "d", "\xff", strings.Repeat("k", 1000)} {
		for _, splits := range append(badWorkers(), api.MaxSplit+1, api.Groups, -api.MaxSplit) {
			got, err := group.Split(key, splits)
			wantError(t, err, api.ErrRange)
			if got != 0 {
				t.Errorf("Split(%q, %d) is %d with an error", key, splits, got)
			}
		}
	}
}
