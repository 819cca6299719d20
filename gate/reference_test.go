package gate_test

import (
	"fmt"
	"math/rand"
	"slices"
	"testing"

	"weirgate/api"
	"weirgate/gate"
	"weirgate/plain"
)

// A second way to the same answers: one list of all that ever came, in its
// order, of which nothing is taken out; all else is looked for.

type came struct {
	input, id int // id 0: a record
	record    api.Record
	gone      bool
}

type second struct {
	inputs int
	all    []came
	taken  []int // the inputs that Next took from
}

// at tells where in the list those are that wait at an input.
func (s *second) at(input int) []int {
	var l []int
	for i, one := range s.all {
		if one.input == input && !one.gone {
			l = append(l, i)
		}
	}
	return l
}

func (s *second) isBlocked(input int) bool {
	l := s.at(input)
	return len(l) > 0 && s.all[l[0]].id != 0
}

// isReady asks copies whether something would be taken.
func (s *second) isReady() bool {
	record, barrier := *s, *s
	record.all, barrier.all = slices.Clone(s.all), slices.Clone(s.all)
	_, _, next := record.next()
	_, bound := barrier.bound()
	return next || bound
}

func (s *second) waiting() int {
	many := 0
	for input := range s.inputs {
		many += len(s.at(input))
	}
	return many
}

func (s *second) push(input int, r api.Record) api.Errno {
	if input < 0 || input >= s.inputs {
		return api.ErrRange
	}
	if len(s.at(input)) == 400 {
		return api.ErrFull
	}
	s.all = append(s.all, came{input: input, record: r})
	return api.OK
}

func (s *second) bar(input, id int) api.Errno {
	switch {
	case input < 0 || input >= s.inputs || id <= 0:
		return api.ErrRange
	case len(s.at(input)) == 400:
		return api.ErrFull
	}
	for _, one := range s.all {
		if one.input == input && one.id >= id {
			return api.ErrOrder
		}
	}
	s.all = append(s.all, came{input: input, id: id})
	return api.OK
}

// order is that in which the inputs are asked.
func (s *second) order() []int {
	var ahead, behind []int
	last := -1
	if len(s.taken) > 0 {
		last = s.taken[len(s.taken)-1]
	}
	for input := range s.inputs {
		if input > last {
			ahead = append(ahead, input)
		} else {
			behind = append(behind, input)
		}
	}
	return append(ahead, behind...)
}

func (s *second) next() (api.Record, int, bool) {
	for _, input := range s.order() {
		if l := s.at(input); len(l) > 0 && !s.isBlocked(input) {
			s.all[l[0]].gone = true
			s.taken = append(s.taken, input)
			return s.all[l[0]].record, input, true
		}
	}
	return api.Record{}, 0, false
}

func (s *second) bound() (int, bool) {
	var ids, firsts []int
	for input := range s.inputs {
		if !s.isBlocked(input) {
			return 0, false
		}
		first := s.at(input)[0]
		firsts = append(firsts, first)
		ids = append(ids, s.all[first].id)
	}
	id := slices.Min(ids)
	for _, first := range firsts {
		if s.all[first].id == id {
			s.all[first].gone = true
		}
	}
	return id, true
}

// thrownStep does one thing to both, and tells what each of them answered, and
// which error.
func thrownStep(random *rand.Rand, g *gate.Gate, want *second, bars int) (got, told string, e api.Errno) {
	input := random.Intn(want.inputs)
	if random.Intn(40) == 0 {
		input = []int{-1, want.inputs}[random.Intn(2)]
	}
	switch n := random.Intn(100); {
	case n < 20:
		r, from, ok := g.Next()
		wr, wfrom, wok := want.next()
		return fmt.Sprint(r, from, ok), fmt.Sprint(wr, wfrom, wok), api.OK
	case n < 30:
		id, ok := g.Bound()
		wid, wok := want.bound()
		return fmt.Sprint(id, ok), fmt.Sprint(wid, wok), api.OK
	case n < 30+bars:
		id := random.Intn(5) + len(want.all)/8 - random.Intn(2)
		e = want.bar(input, id)
		return plain.Told(g.Bar(input, id)).Error(), e.Error(), e
	default:
		r := api.Record{Key: string(rune('a' + random.Intn(4))), Num: random.Int(), Time: random.Intn(100)}
		e = want.push(input, r)
		return plain.Told(g.Push(input, r)).Error(), e.Error(), e
	}
}

func wantAsSecond(t *testing.T, g *gate.Gate, want *second) {
	t.Helper()
	wantWaiting(t, g, want.waiting())
	wantReady(t, g, want.isReady())
	blocked := ""
	for input := range want.inputs {
		if want.isBlocked(input) {
			blocked += "b"
		} else {
			blocked += "-"
		}
	}
	wantBlocked(t, g, blocked)
}

// thrownPlay holds both against each other over so many steps.
func thrownPlay(t *testing.T, random *rand.Rand, inputs, steps, bars int, seen map[api.Errno]int) {
	g, want := made(t, inputs), &second{inputs: inputs}
	for range steps {
		got, told, e := thrownStep(random, g, want, bars)
		seen[e]++
		if got != told {
			t.Fatalf("the answer is %s, want %s", got, told)
		}
		wantAsSecond(t, g, want)
		if t.Failed() {
			t.FailNow()
		}
	}
}

func TestBySecondWay(t *testing.T) {
	random := rand.New(rand.NewSource(11))
	seen := map[api.Errno]int{}
	for range 400 {
		thrownPlay(t, random, 1+random.Intn(6), 100, 10+random.Intn(60), seen)
	}
	// Long ones, in which inputs become full.
	for range 4 {
		thrownPlay(t, random, 1+random.Intn(2), 1800, 30, seen)
	}
	for _, e := range []api.Errno{api.OK, api.ErrRange, api.ErrFull, api.ErrOrder} {
		if seen[e] < 100 {
			t.Errorf("too few of an answer were thrown: %v", seen)
		}
	}
}
