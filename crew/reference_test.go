package crew_test

import (
	"math/rand"
	"testing"

	"weirgate/api"
	"weirgate/den"
	"weirgate/job"
	"weirgate/plain"
)

// A second way to how many records each node gets: each Source hands over one
// record after the other, and each goes all the way, by Apply, before the next
// one does.

type spot struct {
	node int
	key  string
}

type second struct {
	l      []api.Node
	states map[spot]api.Held
	got    []int
}

func (s *second) comes(own int, r api.Record, input int) {
	s.got[own]++
	at := spot{own, r.Key}
	state, has := s.states[at]
	handed, state, has := den.Apply(s.l[own], state, has, r, input)
	if has {
		s.states[at] = state
	}
	for _, r := range handed {
		for later, one := range s.l {
			for i, from := range one.From {
				if from == own {
					s.comes(later, r, i)
				}
			}
		}
	}
}

// secondCount tells it of a right job with right data.
func secondCount(l []api.Node, data [][]api.Record) []int {
	s := &second{l: l, states: map[spot]api.Held{}, got: make([]int, len(l))}
	for own, one := range l {
		if one.Kind == api.Source {
			for _, r := range data[0] {
				s.comes(own, r, 0)
			}
			data = data[1:]
		}
	}
	return s.got
}

var someTexts = []string{"n", "n+s", "n*2", "n%3", "s*2-n", "n>2", "n%2=0", "0", "max(s,n)", "n*9223372036854775807+s", "-n/3", "s+1"}

// someKinds has those that make many records more often.
var someKinds = []int{1, 2, 3, 4, 5, 5, 5, 6, 6, 6, 7, 8, 9}

// thrownJob is a right one, with a Sink of its last node and of a few others.
func thrownJob(random *rand.Rand) []api.Node {
	l := []api.Node{node(api.Source, "", 1)}
	many := 2 + random.Intn(8)
	for own := 1; own < many; own++ {
		one := node(someKinds[random.Intn(len(someKinds))], "", 0, max(random.Intn(own), random.Intn(own)))
		switch one.Kind {
		case api.Source:
			one = node(api.Source, "", 1+random.Intn(8))
		case api.Map, api.Filter, api.Sub, api.Fold:
			one.Text = someTexts[random.Intn(len(someTexts))]
		case api.Copy:
			one.N = random.Intn(4)
		case api.Every:
			one.N = 1 + random.Intn(4)
		case api.Union:
			for range random.Intn(4) {
				one.From = append(one.From, random.Intn(own))
			}
		}
		l = append(l, one)
	}
	last := len(l) - 1
	l = append(l, node(api.Sink, "", 0, last))
	for range random.Intn(3) {
		l = append(l, node(api.Sink, "", 0, random.Intn(last+1)))
	}
	return l
}

func thrownData(random *rand.Rand, l []api.Node) [][]api.Record {
	keys := []string{"", "a", "b", "a/1", "0:a", "1:a", "c", "j", "o", "p", "m", "f", long(36), long(38), long(40)}
	var data [][]api.Record
	for _, one := range l {
		if one.Kind != api.Source {
			continue
		}
		var list []api.Record
		many := []int{random.Intn(3), random.Intn(20), 200 + random.Intn(101)}[random.Intn(3)]
		for range many {
			list = append(list, rec(keys[random.Intn(len(keys))], random.Intn(12)-4, random.Intn(1_000_001)))
		}
		data = append(data, list)
	}
	return data
}

// spoilData makes some data wrong, in one of the ways that they can be.
func spoilData(random *rand.Rand, data [][]api.Record) [][]api.Record {
	at := random.Intn(len(data))
	switch random.Intn(16) {
	case 0:
		return data[1:]
	case 1:
		return append(data, nil)
	case 2:
		data[at] = append(data[at], rec("a", 1, api.MaxTime+1))
	case 3:
		data[at] = append(data[at], rec(long(41), 1, 0))
	case 4:
		data[at] = append(data[at], inTurn(301)...)
	}
	return data
}

func thrownWorkers(random *rand.Rand) int {
	if random.Intn(8) == 0 {
		return noWorkers()[random.Intn(len(noWorkers()))]
	}
	return 1 + random.Intn(api.Groups)
}

func TestBySecondWay(t *testing.T) {
	random := rand.New(rand.NewSource(15))
	seen := map[api.Errno]int{}
	for range 2_000 {
		l := thrownJob(random)
		if err := job.Check(l); err != nil {
			t.Fatalf("%v is thrown wrong: %v", l, err)
		}
		data := spoilData(random, thrownData(random, l))
		workers := thrownWorkers(random)
		_, err := den.All(l, data)
		told := plain.Told(err)
		if told == api.OK && (workers < 1 || workers > 16) {
			told = api.ErrRange
		}
		seen[told]++
		if told == api.OK {
			wantAsAll(t, l, data, workers)
			wantCount(t, l, data, workers, secondCount(l, data))
		} else {
			wantRefused(t, l, data, workers, told)
		}
		if t.Failed() {
			return
		}
	}
	if seen[api.OK] < 500 || seen[api.ErrFull] < 100 || seen[api.ErrRange] < 100 || seen[api.ErrShape] < 50 {
		t.Errorf("too few jobs of an answer were thrown: %v", seen)
	}
}
