package sink_test

import (
	"fmt"
	"math/rand"
	"slices"
	"testing"

	"weirgate/api"
	"weirgate/plain"
	"weirgate/sink"
)

// A second way: all transactions that ever were are kept, with what became of
// them; all else is looked for.

const (
	isOpen = iota
	isSealed
	isWritten
	isGone
)

type past struct {
	id      int // 0: it never got one
	fate    int
	records []api.Record
}

type second []past

// open is where the open one stands.
func (s *second) open() *past {
	if at := slices.IndexFunc(*s, func(p past) bool { return p.fate == isOpen }); at >= 0 {
		return &(*s)[at]
	}
	*s = append(*s, past{})
	return &(*s)[len(*s)-1]
}

func (s *second) add(r api.Record) api.Errno {
	open := s.open()
	if len(open.records) == 400 {
		return api.ErrFull
	}
	open.records = append(open.records, r)
	return api.OK
}

func (s *second) seal(id int) api.Errno {
	if id <= 0 {
		return api.ErrRange
	}
	for _, p := range *s {
		if p.id >= id {
			return api.ErrOrder
		}
	}
	open := s.open()
	open.id, open.fate = id, isSealed
	return api.OK
}

func (s *second) commit(id int) (int, api.Errno) {
	if id <= 0 {
		return 0, api.ErrRange
	}
	return s.become(isWritten, func(p past) bool { return p.fate == isSealed && p.id <= id }), api.OK
}

func (s *second) abort() int {
	return s.become(isGone, func(p past) bool { return p.fate == isSealed || p.fate == isOpen })
}

// become gives some another fate, and tells how many records they have.
func (s *second) become(fate int, which func(past) bool) int {
	many := 0
	for at := range *s {
		if p := &(*s)[at]; which(*p) {
			p.fate = fate
			many += len(p.records)
		}
	}
	return many
}

func (s second) written() []api.Record {
	var l []api.Record
	for _, p := range s {
		if p.fate == isWritten {
			l = append(l, p.records...)
		}
	}
	return l
}

func (s second) sealed() []int {
	var l []int
	for _, p := range s {
		if p.fate == isSealed {
			l = append(l, p.id)
		}
	}
	slices.Sort(l)
	return l
}

// thrownId is near those that were sealed, or none that may be.
func thrownId(random *rand.Rand, sealed int) int {
	switch random.Intn(20) {
	case 0:
		return noIds()[random.Intn(len(noIds()))]
	case 1:
		return 1 + random.Intn(sealed+1)
	}
	return sealed + random.Intn(5) - 1
}

// thrownStep does one thing to both, and tells what each of them answered, and
// which error. The greatest id that was sealed is told, and how many of 1000
// steps add.
func thrownStep(random *rand.Rand, s *sink.Sink, want *second, num, last, adds int) (got, told string, e api.Errno) {
	if random.Intn(1000) < adds {
		e = want.add(record(num))
		return plain.Told(s.Add(record(num))).Error(), e.Error(), e
	}
	id := thrownId(random, last)
	switch random.Intn(10) {
	default:
		e = want.seal(id)
		return plain.Told(s.Seal(id)).Error(), e.Error(), e
	case 0, 1, 2, 3:
		id -= random.Intn(4)
		many, err := s.Commit(id)
		wanted, e := want.commit(id)
		return fmt.Sprint(many, plain.Told(err)), fmt.Sprint(wanted, e), e
	case 4:
		return fmt.Sprint(s.Abort()), fmt.Sprint(want.abort()), api.OK
	}
}

// wantOnce holds that Written goes on from what it was before, and that each
// record is in it at most once, in the order in which it was added: their
// numbers rise.
func wantOnce(t *testing.T, before, now []api.Record) {
	t.Helper()
	if len(now) < len(before) || !slices.Equal(now[:len(before)], before) {
		t.Errorf("written was %v, is %v", before, now)
	}
	for at := 1; at < len(now); at++ {
		if now[at-1].Num >= now[at].Num {
			t.Errorf("%v was written behind %v", now[at], now[at-1])
		}
	}
}

// thrownPlay holds both against each other over so many steps, and tells how
// many records were written.
func thrownPlay(t *testing.T, random *rand.Rand, steps, adds int, seen map[api.Errno]int) int {
	t.Helper()
	s, want := sink.New(), &second{}
	var before []api.Record
	last := 0
	for num := range steps {
		got, told, e := thrownStep(random, s, want, num, last, adds)
		seen[e]++
		if got != told {
			t.Fatalf("the answer is %s, want %s", got, told)
		}
		now, sealed := s.Written(), s.Sealed()
		if !slices.Equal(now, want.written()) || !slices.Equal(sealed, want.sealed()) {
			t.Fatalf("written is %v, sealed %v, want %v, %v", now, sealed, want.written(), want.sealed())
		}
		wantOnce(t, before, now)
		if t.Failed() {
			t.FailNow()
		}
		before = now
		if len(sealed) > 0 {
			last = sealed[len(sealed)-1]
		}
	}
	return len(before)
}

func TestBySecondWay(t *testing.T) {
	random := rand.New(rand.NewSource(13))
	seen := map[api.Errno]int{}
	short, long := 0, 0
	for range 600 {
		short += thrownPlay(t, random, 80, 200+random.Intn(600), seen)
	}
	// Long ones, in which transactions become full.
	for range 8 {
		long += thrownPlay(t, random, 2500, 996, seen)
	}
	for _, e := range []api.Errno{api.OK, api.ErrRange, api.ErrFull, api.ErrOrder} {
		if seen[e] < 100 {
			t.Errorf("too few of an answer were thrown: %v", seen)
		}
	}
	if short < 5000 || long < 1000 {
		t.Errorf("too few were written: %d, %d", short, long)
	}
}
