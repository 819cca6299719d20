package engine_test

import (
	"cmp"
	"math/rand"
	"reflect"
	"slices"
	"strings"
	"testing"

	"weirgate/api"
	"weirgate/den"
	"weirgate/engine"
	"weirgate/group"
	"weirgate/job"
)

// A second way to what is kept. Each Source of a thrown job has a Sink of its
// own, its witness, ahead of all other Sinks: so what is written tells which
// records the Sources had handed over. Of just these, what is written is All
// (chapter 4), and the states are what comes of them one by one, each all the
// way, by Apply.

type spot struct {
	node int
	key  string
}

type second struct {
	l      []api.Node
	states map[spot]api.Held
}

func (s *second) comes(own int, r api.Record, input int) {
	at := spot{own, r.Key}
	state, has := s.states[at]
	handed, state, has := den.Apply(s.l[own], state, has, r, input)
	if has {
		state.Node = own
		s.states[at] = state
	}
	for _, r := range handed {
		for later, one := range s.l {
			for i, from := range one.From {
				if from == own {
					s.comes(later, r, i)
				}
			}
		}
	}
}

// secondStates are those of all nodes, where the Sources have handed over all.
func secondStates(l []api.Node, data [][]api.Record) []api.Held {
	s := &second{l: l, states: map[spot]api.Held{}}
	for own, one := range l {
		if one.Kind == api.Source {
			for _, r := range data[0] {
				s.comes(own, r, 0)
			}
			data = data[1:]
		}
	}
	var all []api.Held
	for _, h := range s.states {
		all = append(all, h)
	}
	slices.SortFunc(all, func(a, b api.Held) int { return cmp.Or(a.Node-b.Node, strings.Compare(a.Key, b.Key)) })
	return all
}

// handedOver are the records of a Source that its witness got, which must be
// the first ones of each split.
func handedOver(t *testing.T, list []api.Record, splits int, witness []api.Line) []api.Record {
	t.Helper()
	got := map[string][]int{}
	for _, line := range witness {
		got[line.Key] = line.Nums
	}
	var handed []api.Record
	ended := make([]bool, splits)
	for _, r := range list {
		split := group.Of(r.Key) % splits
		if len(got[r.Key]) == 0 {
			ended[split] = true
			continue
		}
		if ended[split] || got[r.Key][0] != r.Num {
			t.Fatalf("of %v in %d splits just these were handed over: %v", list, splits, witness)
		}
		got[r.Key] = got[r.Key][1:]
		handed = append(handed, r)
	}
	return handed
}

// wantKept holds what is kept against the second way, and tells how many
// records are not handed over by then.
func wantKept(t *testing.T, e *engine.Engine, l []api.Node, data [][]api.Record) (lag int) {
	t.Helper()
	written := e.Written()
	var handed [][]api.Record
	for _, one := range l {
		if one.Kind == api.Source {
			i := len(handed)
			handed = append(handed, handedOver(t, data[i], one.N, written[i]))
			lag += len(data[i]) - len(handed[i])
		}
	}
	wantWritten(t, e, all(t, l, handed))
	if got, want := e.States(), secondStates(l, handed); !reflect.DeepEqual(got, want) {
		t.Errorf("States are %v, want %v", got, want)
	}
	return lag
}

var someTexts = []string{"n", "n+s", "n*2", "n%3", "s*2-n", "n>2", "n%2=0", "0", "max(s,n)", "n*9223372036854775807+s", "-n/3", "s+1"}

// thrownNode is a right one, no Source or Sink, behind so many others.
func thrownNode(random *rand.Rand, own int) api.Node {
	one := api.Node{Kind: api.Map + random.Intn(8), From: []int{max(random.Intn(own), random.Intn(own))}}
	switch one.Kind {
	case api.Map, api.Filter, api.Sub, api.Fold:
		one.Text = someTexts[random.Intn(len(someTexts))]
	case api.Copy:
		one.N = random.Intn(4)
	case api.Every:
		one.N = 1 + random.Intn(4)
	case api.Union:
		for range random.Intn(4) {
			one.From = append(one.From, random.Intn(own))
		}
	}
	return one
}

// thrownJob is a right one, with a witness for each Source.
func thrownJob(random *rand.Rand) []api.Node {
	var l []api.Node
	sources := 1 + random.Intn(3)
	for range sources {
		l = append(l, api.Node{Kind: api.Source, N: 1 + random.Intn(8)})
	}
	for range random.Intn(6) {
		l = append(l, thrownNode(random, len(l)))
	}
	last := len(l) - 1
	for source := range sources {
		l = append(l, api.Node{Kind: api.Sink, From: []int{source}})
	}
	return append(l, api.Node{Kind: api.Sink, From: []int{last}})
}

func thrownData(random *rand.Rand, l []api.Node, most int) [][]api.Record {
	keys := []string{"", "a", "b", "c", "d", "e", "f", "a/1", "0:a", "1:a", "\xff\x00", long(36), long(38), long(40)}
	var data [][]api.Record
	for _, one := range l {
		if one.Kind != api.Source {
			continue
		}
		var list []api.Record
		for range random.Intn(most + 1) {
			list = append(list, rec(keys[random.Intn(len(keys))], random.Intn(12)-4, random.Intn(1_000_001)))
		}
		data = append(data, list)
	}
	return data
}

// thrown are a right job and right data, of so many records a Source at most.
func thrown(t *testing.T, random *rand.Rand, most int) ([]api.Node, [][]api.Record) {
	t.Helper()
	for {
		l := thrownJob(random)
		if err := job.Check(l); err != nil {
			t.Fatalf("%v is thrown wrong: %v", l, err)
		}
		data := thrownData(random, l, most)
		if _, err := den.All(l, data); err == nil { // else a node hands on too many
			return l, data
		}
	}
}
