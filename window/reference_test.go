package window_test

import (
	"cmp"
	"fmt"
	"math/big"
	"math/rand"
	"slices"
	"testing"

	"weirgate/api"
	"weirgate/plain"
	"weirgate/window"
)

// A second way: nothing is kept from one record to the next. Every pane that
// could be is gone over with all records, and every mark is looked for in all
// that came ahead.

func secondWrongRecord(r api.Record) bool {
	return len(r.Key) >= 41 || r.Time < 0 || r.Time >= 1_000_001
}

func within(n, low, high int) bool { return low <= n && n <= high }

// secondMark is the mark behind all of these.
func secondMark(l []api.Record, slack int) int {
	if len(l) == 0 {
		return 0
	}
	last := slices.MaxFunc(l, func(a, b api.Record) int { return cmp.Compare(a.Time, b.Time) })
	if last.Time <= slack {
		return 0
	}
	return last.Time - slack
}

// secondSum is what numbers of any size come to, modulo 2^64.
func secondSum(l []api.Record) int {
	sum := new(big.Int)
	for _, r := range l {
		sum.Add(sum, big.NewInt(int64(r.Num)))
	}
	whole := new(big.Int).Lsh(big.NewInt(1), 64)
	return int(sum.Mod(sum, whole).Uint64())
}

func secondKeys(l []api.Record) []string {
	var keys []string
	for _, r := range l {
		if !slices.Contains(keys, r.Key) {
			keys = append(keys, r.Key)
		}
	}
	slices.Sort(keys)
	return keys
}

func secondSlide(l []api.Record, size, by, slack int) ([]api.Pane, api.Errno) {
	if len(l) >= 401 {
		return nil, api.ErrFull
	}
	if slices.ContainsFunc(l, secondWrongRecord) || !within(size, 1, 1_000_000) || !within(by, 1, 1_000_000) || !within(slack, 0, 1_000_000) || (size-1)/by >= 16 {
		return nil, api.ErrRange
	}
	var all []api.Pane
	last := secondMark(l, 0)
	for _, key := range secondKeys(l) {
		for from := 0; from <= last; from += by {
			to := from + size
			var in []api.Record
			late := 0
			for i, r := range l {
				if r.Key != key || r.Time < from || r.Time >= to {
					continue
				}
				if secondMark(l[:i], slack) >= to {
					late++
				} else {
					in = append(in, r)
				}
			}
			if len(in)+late > 0 {
				all = append(all, api.Pane{Key: key, From: from, To: to, Many: len(in), Sum: secondSum(in), Late: late})
			}
		}
	}
	return all, api.OK
}

// near tells whether two lists have records that are less than gap apart.
func near(a, b []api.Record, gap int) bool {
	for _, r := range a {
		for _, s := range b {
			if r.Key == s.Key && r.Time-s.Time < gap && s.Time-r.Time < gap {
				return true
			}
		}
	}
	return false
}

// secondSession begins with a pane of each record, and lays two of them
// together as long as there are two that are near each other.
func secondSession(l []api.Record, gap int) ([]api.Pane, api.Errno) {
	if len(l) >= 401 {
		return nil, api.ErrFull
	}
	if slices.ContainsFunc(l, secondWrongRecord) || !within(gap, 1, 1_000_000) {
		return nil, api.ErrRange
	}
	var parts [][]api.Record
	for _, r := range l {
		joined := []api.Record{r}
		var apart [][]api.Record
		for _, part := range parts {
			if near(part, []api.Record{r}, gap) {
				joined = append(joined, part...)
			} else {
				apart = append(apart, part)
			}
		}
		parts = append(apart, joined)
	}
	var all []api.Pane
	for _, part := range parts {
		p := api.Pane{Key: part[0].Key, From: part[0].Time, To: part[0].Time, Many: len(part), Sum: secondSum(part)}
		for _, r := range part {
			p.From, p.To = min(p.From, r.Time), max(p.To, r.Time)
		}
		p.To += gap
		all = append(all, p)
	}
	slices.SortFunc(all, func(a, b api.Pane) int {
		if a.Key != b.Key {
			return slices.Compare([]byte(a.Key), []byte(b.Key))
		}
		return a.From - b.From
	})
	return all, api.OK
}

// secondMarks takes the first k records for each k anew.
func secondMarks(l [][]api.Record, slack int) ([]int, api.Errno) {
	whole := slices.Concat(l...)
	if len(l) >= 5 || len(whole) >= 401 {
		return nil, api.ErrFull
	}
	if slices.ContainsFunc(whole, secondWrongRecord) || !within(slack, 0, 1_000_000) {
		return nil, api.ErrRange
	}
	var marks []int
	for k := 1; k <= len(whole); k++ {
		came := make([]int, len(l))
		for input, left := 0, k; left > 0; input = (input + 1) % len(l) {
			if came[input] < len(l[input]) {
				came[input]++
				left--
			}
		}
		lowest := -1
		for input, one := range l {
			if mark := secondMark(one[:came[input]], slack); len(one) > 0 && (lowest < 0 || mark < lowest) {
				lowest = mark
			}
		}
		marks = append(marks, lowest)
	}
	return marks, api.OK
}

var someKeys = []string{"a", "b", "c", "ab", "", "\x00", "B", "é", "\xff", long(40)}

var someNums = []int{0, 1, -1, 7, -12, 1000, greatest, least, greatest - 1, 1 << 62}

// thrownRecords lie below a time, in no order, or nearly in order.
func thrownRecords(random *rand.Rand, many, below int) []api.Record {
	keys := someKeys[:1+random.Intn(len(someKeys))]
	var l []api.Record
	for range many {
		l = append(l, rec(keys[random.Intn(len(keys))], someNums[random.Intn(len(someNums))], random.Intn(below)))
	}
	if random.Intn(2) == 0 {
		slices.SortFunc(l, func(a, b api.Record) int { return a.Time - b.Time })
		for range many / 3 {
			i, j := random.Intn(many), random.Intn(many)
			l[i], l[j] = l[j], l[i]
		}
	}
	return l
}

// spoilRecords makes a list wrong, now and then.
func spoilRecords(random *rand.Rand, l []api.Record) []api.Record {
	if random.Intn(12) == 0 {
		l = slices.Insert(l, random.Intn(len(l)+1), noRecords()[random.Intn(len(noRecords()))])
	}
	return l
}

// thrown is a right number, or now and then one of the wrong ones.
func thrown(random *rand.Rand, right int, wrong []int) int {
	if random.Intn(25) == 0 {
		return wrong[random.Intn(len(wrong))]
	}
	return right
}

func same(t *testing.T, call string, got any, err error, want any, wrong api.Errno) {
	t.Helper()
	if fmt.Sprint(got) != fmt.Sprint(want) || plain.Told(err) != wrong {
		t.Fatalf("%s is %v, %v, want %v, %v", call, got, err, want, wrong)
	}
}

// thrownSlide holds panes of a list of records, which begin at multiples of
// scale, against the second way; it tells how many have late records and
// others.
func thrownSlide(t *testing.T, random *rand.Rand, l []api.Record, scale int, seen map[api.Errno]int) (mixed int) {
	t.Helper()
	by := thrown(random, scale*(1+random.Intn(12)), noSpans())
	size := thrown(random, min(1_000_000, scale*(1+random.Intn(40))-random.Intn(scale)), noSpans())
	slack := thrown(random, scale*random.Intn(25), noSlacks())
	got, err := window.Slide(l, size, by, slack)
	want, wrong := secondSlide(l, size, by, slack)
	seen[wrong]++
	same(t, fmt.Sprintf("Slide(%v, %d, %d, %d)", l, size, by, slack), got, err, want, wrong)
	got, err = window.Tumble(l, by, slack)
	panes, wrong := secondSlide(l, by, by, slack)
	same(t, fmt.Sprintf("Tumble(%v, %d, %d)", l, by, slack), got, err, panes, wrong)
	for _, p := range want {
		if p.Late > 0 && p.Many > 0 {
			mixed++
		}
	}
	return mixed
}

func TestSlideBySecondWay(t *testing.T) {
	random := rand.New(rand.NewSource(16))
	seen := map[api.Errno]int{}
	mixed := 0
	for range 2000 {
		l := spoilRecords(random, thrownRecords(random, random.Intn(30), 60))
		mixed += thrownSlide(t, random, l, 1, seen)
	}
	for range 300 {
		l := spoilRecords(random, thrownRecords(random, random.Intn(40), most+1))
		mixed += thrownSlide(t, random, l, 20_000, seen)
	}
	for range 10 {
		l := spoilRecords(random, thrownRecords(random, 398+random.Intn(5), most+1))
		mixed += thrownSlide(t, random, l, 60_000, seen)
	}
	if seen[api.OK] < 1000 || seen[api.ErrRange] < 300 || seen[api.ErrFull] < 3 || mixed < 1000 {
		t.Errorf("too few were thrown: %v, %d", seen, mixed)
	}
}

func TestSessionBySecondWay(t *testing.T) {
	random := rand.New(rand.NewSource(17))
	seen := map[api.Errno]int{}
	whole := 0
	for i := range 3000 {
		many, below := random.Intn(30), 60
		if i%2 == 0 {
			below = most + 1
		}
		if i%100 == 0 {
			many = 396 + random.Intn(8)
		}
		l := spoilRecords(random, thrownRecords(random, many, below))
		gap := thrown(random, 1+random.Intn(below/6), noSpans())
		got, err := window.Session(l, gap)
		want, wrong := secondSession(l, gap)
		seen[wrong]++
		same(t, fmt.Sprintf("Session(%v, %d)", l, gap), got, err, want, wrong)
		for _, p := range want {
			if p.Many > 2 {
				whole++
			}
		}
	}
	if seen[api.OK] < 2000 || seen[api.ErrRange] < 200 || seen[api.ErrFull] < 5 || whole < 1000 {
		t.Errorf("too few were thrown: %v, %d", seen, whole)
	}
}

func TestMarksBySecondWay(t *testing.T) {
	random := rand.New(rand.NewSource(18))
	seen := map[api.Errno]int{}
	risen := 0
	for i := range 3000 {
		var l [][]api.Record
		for range min(random.Intn(6), 1+random.Intn(5)) {
			many := []int{0, random.Intn(4), random.Intn(25)}[random.Intn(3)]
			if i%100 == 0 {
				many = 90 + random.Intn(40)
			}
			l = append(l, spoilRecords(random, thrownRecords(random, many, 60)))
		}
		slack := thrown(random, max(0, random.Intn(30)-5), noSlacks())
		got, err := window.Marks(l, slack)
		want, wrong := secondMarks(l, slack)
		seen[wrong]++
		same(t, fmt.Sprintf("Marks(%v, %d)", l, slack), got, err, want, wrong)
		if len(slices.Compact(want)) > 2 {
			risen++
		}
	}
	if seen[api.OK] < 1500 || seen[api.ErrRange] < 200 || seen[api.ErrFull] < 100 || risen < 500 {
		t.Errorf("too few were thrown: %v, %d", seen, risen)
	}
}
