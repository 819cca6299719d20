package den_test

import (
	"fmt"
	"math/rand"
	"reflect"
	"sort"
	"strings"
	"testing"

	"weirgate/api"
	"weirgate/den"
	"weirgate/expr"
	"weirgate/job"
	"weirgate/plain"
)

// A second way to the same answers, as D2 tells it: each Source hands over one
// record after the other, and each goes all the way before the next one does.
// Folds, counts and firsts are told of all that a key has brought so far, not
// of a state.

type spot struct {
	node int
	key  string
}

type second struct {
	l      []api.Node
	came   map[spot][]int // numbers that came to a node, by keys
	handed map[int]int
	full   bool           // a node handed on too many
	got    map[spot][]int // of Sinks
}

func text(one api.Node, n, s int) int {
	num, err := expr.Eval(one.Text, n, s)
	if err != nil {
		panic(err)
	}
	return num
}

// makes tells what a node hands on of a record that came with others of its
// key ahead.
func makes(one api.Node, came []int, r api.Record, input int) []api.Record {
	with := func(num int) []api.Record { return []api.Record{rec(r.Key, num, r.Time)} }
	switch one.Kind {
	case api.Map:
		return with(text(one, r.Num, 0))
	case api.Filter:
		if text(one, r.Num, 0) == 0 {
			return nil
		}
	case api.Sub:
		return []api.Record{rec(fmt.Sprintf("%s/%d", r.Key, text(one, r.Num, 0)), r.Num, r.Time)}
	case api.Copy:
		return []api.Record{r, r, r}[:one.N]
	case api.Union:
		return []api.Record{rec(fmt.Sprintf("%d:%s", input, r.Key), r.Num, r.Time)}
	case api.Fold:
		s := 0
		for _, num := range came {
			s = text(one, num, s)
		}
		return with(s)
	case api.Every:
		if len(came)%one.N != 0 {
			return nil
		}
		sum := 0
		for _, num := range came[len(came)-one.N:] {
			sum += num
		}
		return with(sum)
	case api.First:
		if len(came) > 1 {
			return nil
		}
	}
	return []api.Record{r}
}

func (s *second) comes(own int, r api.Record, input int) {
	at := spot{own, r.Key}
	if s.l[own].Kind == api.Sink {
		s.got[at] = append(s.got[at], r.Num)
		return
	}
	s.came[at] = append(s.came[at], r.Num)
	for _, made := range makes(s.l[own], s.came[at], r, input) {
		if len(made.Key) > 40 || s.full {
			continue
		}
		s.handed[own]++
		s.full = s.full || s.handed[own] > 2000
		for later, one := range s.l {
			for i, from := range one.From {
				if from == own {
					s.comes(later, made, i)
				}
			}
		}
	}
}

// secondAll tells what comes of a right job with right data.
func secondAll(l []api.Node, data [][]api.Record) ([][]api.Line, api.Errno) {
	s := &second{l: l, came: map[spot][]int{}, handed: map[int]int{}, got: map[spot][]int{}}
	for own, one := range l {
		if one.Kind == api.Source {
			for _, r := range data[0] {
				s.comes(own, r, 0)
			}
			data = data[1:]
		}
	}
	if s.full {
		return nil, api.ErrFull
	}
	var all [][]api.Line
	for own, one := range l {
		if one.Kind == api.Sink {
			all = append(all, s.linesOf(own))
		}
	}
	return all, api.OK
}

func (s *second) linesOf(own int) []api.Line {
	var l []api.Line
	for at, nums := range s.got {
		if at.node == own {
			l = append(l, api.Line{Key: at.key, Nums: nums})
		}
	}
	sort.Slice(l, func(i, j int) bool { return l[i].Key < l[j].Key })
	return l
}

var someTexts = []string{"n", "n+s", "n*2", "n%3", "s*2-n", "n>2", "n%2=0", "0", "max(s,n)", "n*9223372036854775807+s", "-n/3", "s+1"}

// someKinds has those that make many records more often.
var someKinds = []int{1, 2, 3, 4, 5, 5, 5, 6, 6, 6, 7, 8, 9}

// thrownJob is a right one, with a Sink of its last node and of a few others.
func thrownJob(random *rand.Rand) []api.Node {
	l := []api.Node{node(api.Source, "", 1)}
	many := 2 + random.Intn(8)
	for own := 1; own < many; own++ {
		one := node(someKinds[random.Intn(len(someKinds))], "", 0, max(random.Intn(own), random.Intn(own)))
		switch one.Kind {
		case api.Source:
			one = node(api.Source, "", 1+random.Intn(8))
		case api.Map, api.Filter, api.Sub, api.Fold:
			one.Text = someTexts[random.Intn(len(someTexts))]
		case api.Copy:
			one.N = random.Intn(4)
		case api.Every:
			one.N = 1 + random.Intn(4)
		case api.Union:
			for range random.Intn(4) {
				one.From = append(one.From, random.Intn(own))
			}
		}
		l = append(l, one)
	}
	last := len(l) - 1
	l = append(l, node(api.Sink, "", 0, last))
	for range random.Intn(3) {
		l = append(l, node(api.Sink, "", 0, random.Intn(last+1)))
	}
	return l
}

func thrownData(random *rand.Rand, l []api.Node) [][]api.Record {
	keys := []string{"", "a", "b", "a/1", "0:a", "1:a", "c", strings.Repeat("k", 36), strings.Repeat("k", 38), strings.Repeat("k", 40)}
	var data [][]api.Record
	for _, one := range l {
		if one.Kind != api.Source {
			continue
		}
		var list []api.Record
		many := []int{random.Intn(3), random.Intn(20), 200 + random.Intn(101)}[random.Intn(3)]
		for range many {
			list = append(list, rec(keys[random.Intn(len(keys))], random.Intn(12)-4, random.Intn(1_000_001)))
		}
		data = append(data, list)
	}
	return data
}

func TestAllBySecondWay(t *testing.T) {
	random := rand.New(rand.NewSource(5))
	seen := map[api.Errno]int{}
	for range 3_000 {
		l := thrownJob(random)
		if err := job.Check(l); err != nil {
			t.Fatalf("%v is thrown wrong: %v", l, err)
		}
		data := thrownData(random, l)
		want, wrong := secondAll(l, data)
		seen[wrong]++
		got, err := den.All(l, data)
		if !reflect.DeepEqual(got, want) || plain.Told(err) != wrong {
			t.Fatalf("All(%v, %v) is %v, %v, want %v, %v", l, data, got, err, want, wrong)
		}
	}
	if seen[api.OK] < 100 || seen[api.ErrFull] < 50 {
		t.Errorf("too few jobs of an answer were thrown: %v", seen)
	}
}

// What comes of fewer records is the beginning of what comes of all.
func TestPrefixOfFewerRecords(t *testing.T) {
	random := rand.New(rand.NewSource(6))
	for range 1_000 {
		l := thrownJob(random)
		data := thrownData(random, l)
		all, err := den.All(l, data)
		if err != nil {
			continue
		}
		for i, list := range data {
			data[i] = list[:random.Intn(len(list)+1)]
		}
		part, err := den.All(l, data)
		for i := range part {
			if err != nil || !den.Prefix(part[i], all[i]) {
				t.Fatalf("of %v, %v comes %v, %v, which does not begin %v", l, data, part[i], err, all[i])
			}
		}
	}
}
