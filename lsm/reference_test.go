package lsm_test

import (
	"math/rand"
	"slices"
	"strings"
	"testing"

	"weirgate/api"
	"weirgate/lsm"
	"weirgate/plain"
)

// A second way to the same answers: entries stay lists, the fresh ones in the
// order in which they were said, and each key is looked for in one list behind
// the other.

type second struct {
	limit  int
	fresh  []api.Entry
	tables [][]api.Entry // the newest first
}

// all are the entries of each key that is not forgotten, the last ones alone.
func (s *second) all() []api.Entry {
	l := slices.Concat(append([][]api.Entry{s.fresh}, s.tables...)...)
	slices.SortStableFunc(l, func(a, b api.Entry) int { return strings.Compare(a.Key, b.Key) })
	return slices.CompactFunc(l, func(a, b api.Entry) bool { return a.Key == b.Key })
}

func (s *second) there() []api.Entry {
	return slices.DeleteFunc(s.all(), func(e api.Entry) bool { return e.Dead })
}

func (s *second) set(e api.Entry) api.Errno {
	if max(len(e.Key), len(e.Value)) > 120 {
		return api.ErrRange
	}
	same := func(other api.Entry) bool { return other.Key == e.Key }
	if all := s.all(); len(all) == 400 && !slices.ContainsFunc(all, same) {
		return api.ErrFull
	}
	s.fresh = append(slices.DeleteFunc(s.fresh, same), e)
	if len(s.fresh) == s.limit {
		s.flush()
	}
	return api.OK
}

func (s *second) flush() {
	if len(s.fresh) == 0 {
		return
	}
	slices.SortFunc(s.fresh, func(a, b api.Entry) int { return strings.Compare(a.Key, b.Key) })
	s.tables = slices.Insert(s.tables, 0, s.fresh)
	s.fresh = nil
}

func (s *second) compact() {
	s.flush()
	left := s.there()
	if s.tables = nil; len(left) > 0 {
		s.tables = [][]api.Entry{left}
	}
}

func (s *second) scan(low, high string) []api.Entry {
	return slices.DeleteFunc(s.there(), func(e api.Entry) bool {
		return e.Key < low || high != "" && e.Key >= high
	})
}

func (s *second) get(key string) (string, api.Errno) {
	for _, e := range s.all() {
		if e.Key == key && !e.Dead {
			return e.Value, api.OK
		}
	}
	return "", api.ErrNone
}

func thrownKey(random *rand.Rand) string {
	if random.Intn(100) == 0 {
		return strings.Repeat("a", 119+random.Intn(3))
	}
	b := make([]byte, random.Intn(4))
	for i := range b {
		b[i] = "ab\x00\xff"[random.Intn(4)]
	}
	return string(b)
}

func thrownEntry(random *rand.Rand) api.Entry {
	if random.Intn(3) == 0 {
		return gone(thrownKey(random))
	}
	return put(thrownKey(random), thrownKey(random))
}

// wantAsSecond holds all that a Store says.
func wantAsSecond(t *testing.T, random *rand.Rand, s *lsm.Store, want *second) {
	t.Helper()
	wantTables(t, s, len(want.fresh), want.tables...)
	wantScanned(t, s, "", "", want.scan("", "")...)
	for range 3 {
		low, high := thrownKey(random), thrownKey(random)
		wantScanned(t, s, low, high, want.scan(low, high)...)
		value, told := want.get(low)
		if got, err := s.Get(low); got != value || plain.Told(err) != told {
			t.Errorf("Get(%q) is %q, %v, want %q, %v", low, got, err, value, told)
		}
	}
}

func TestBySecondWay(t *testing.T) {
	random := rand.New(rand.NewSource(8))
	seen := map[api.Errno]int{}
	for range 1_500 {
		limit := 1 + random.Intn(12)
		s, want := made(t, limit), &second{limit: limit}
		for range random.Intn(30) {
			switch random.Intn(14) {
			case 0:
				flush(t, s)
				want.flush()
			case 1:
				compact(t, s)
				want.compact()
			case 2:
				// as if the fresh ones were lost
				limit = 1 + random.Intn(12)
				s, want = opened(t, limit, s.Tables()...), &second{limit: limit, tables: want.tables}
			default:
				e := thrownEntry(random)
				told := want.set(e)
				seen[told]++
				wantTold(t, set(s, e), told)
			}
			wantAsSecond(t, random, s, want)
			if t.Failed() {
				return
			}
		}
	}
	wantSeen(t, seen, api.OK, api.ErrRange)
}

// With about as many keys as there may be.
func TestManyBySecondWay(t *testing.T) {
	random := rand.New(rand.NewSource(88))
	seen := map[api.Errno]int{}
	for range 25 {
		limit := []int{1, 50, 130, 399, 400}[random.Intn(5)]
		begun := many(0, 300)
		s, want := opened(t, limit, built(t, begun...)), &second{limit: limit, tables: [][]api.Entry{begun}}
		for range 200 {
			switch random.Intn(200) {
			case 0:
				compact(t, s)
				want.compact()
			case 1:
				flush(t, s)
				want.flush()
			}
			for range 4 {
				e := api.Entry{Key: key(random.Intn(600)), Dead: random.Intn(3) == 0}
				told := want.set(e)
				seen[told]++
				wantTold(t, set(s, e), told)
			}
		}
		wantAsSecond(t, random, s, want)
		if t.Failed() {
			return
		}
	}
	wantSeen(t, seen, api.OK, api.ErrFull)
}

// wantSeen holds that each answer was thrown often enough.
func wantSeen(t *testing.T, seen map[api.Errno]int, all ...api.Errno) {
	t.Helper()
	for _, told := range all {
		if seen[told] < 20 {
			t.Errorf("%v was thrown %d times", told, seen[told])
		}
	}
}

// How much is flushed, and when, is not to be told from what Get and Scan say.
func TestLimitsSayTheSame(t *testing.T) {
	random := rand.New(rand.NewSource(888))
	for range 100 {
		stores := []*lsm.Store{made(t, 1), made(t, 2), made(t, 3), made(t, 7), made(t, 400)}
		for range 60 {
			e := thrownEntry(random)
			told := set(stores[0], e)
			want := stores[0].Scan("", "")
			for _, s := range stores[1:] {
				wantTold(t, set(s, e), plain.Told(told))
				wantAll(t, s, want...)
			}
			flush(t, stores[random.Intn(5)])
			compact(t, stores[random.Intn(5)])
		}
		if t.Failed() {
			return
		}
	}
}
