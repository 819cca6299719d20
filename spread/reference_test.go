package spread_test

import (
	"fmt"
	"math/rand"
	"testing"

	"weirgate/api"
	"weirgate/plain"
	"weirgate/spread"
)

// A second way: what each worker has is looked for anew in what was handed in,
// for each worker by itself, or for each load.

func secondWrong(many, workers int) api.Errno {
	switch {
	case workers <= 0 || workers >= 17:
		return api.ErrRange
	case many >= 401:
		return api.ErrFull
	}
	return api.OK
}

// secondThing is the i-th thing of all lists, if there is one.
func secondThing(l [][]string, i int) (string, bool) {
	for _, things := range l {
		if i < len(things) {
			return things[i], true
		}
		i -= len(things)
	}
	return "", false
}

func secondMany(l [][]string) int {
	many := 0
	for _, has := secondThing(l, many); has; _, has = secondThing(l, many) {
		many++
	}
	return many
}

// secondLists are what workers have who each take the thing at first, by their
// number, and then each that lies so much further.
func secondLists(l [][]string, workers int, first, further func(worker int) int) ([][]string, api.Errno) {
	if wrong := secondWrong(secondMany(l), workers); wrong != api.OK {
		return nil, wrong
	}
	var all [][]string
	for worker := 0; worker < workers; worker++ {
		var has []string
		at := first(worker)
		for thing, is := secondThing(l, at); is; thing, is = secondThing(l, at) {
			has = append(has, thing)
			at += further(worker)
		}
		all = append(all, has)
	}
	return all, api.OK
}

func secondAgain(l [][]string, workers int) ([][]string, api.Errno) {
	return secondLists(l, workers, func(worker int) int { return worker }, func(int) int { return workers })
}

func secondEvery(l [][]string, workers int) ([][]string, api.Errno) {
	return secondLists(l, workers, func(int) int { return 0 }, func(int) int { return 1 })
}

// secondNext is the place of the first of the greatest loads that nobody has
// yet, -1 if all are given out.
func secondNext(load, who []int) int {
	next := -1
	for at := len(load) - 1; at >= 0; at-- {
		if who[at] < 0 && (next < 0 || load[at] >= load[next]) {
			next = at
		}
	}
	return next
}

// secondHas is what a worker has so far.
func secondHas(load, who []int, worker int) int {
	has := 0
	for at, one := range who {
		if one == worker {
			has += load[at]
		}
	}
	return has
}

func secondLeast(load []int, workers int) ([]int, api.Errno) {
	if wrong := secondWrong(len(load), workers); wrong != api.OK {
		return nil, wrong
	}
	for _, one := range load {
		if one <= -1 || one >= 1_000_001 {
			return nil, api.ErrRange
		}
	}
	who := alike(len(load), -1)
	for next := secondNext(load, who); next >= 0; next = secondNext(load, who) {
		to := workers - 1
		for worker := workers - 2; worker >= 0; worker-- {
			if secondHas(load, who, worker) <= secondHas(load, who, to) {
				to = worker
			}
		}
		who[next] = to
	}
	return who, api.OK
}

func same(t *testing.T, call string, got any, err error, want any, wrong api.Errno) {
	t.Helper()
	if fmt.Sprintf("%q", got) != fmt.Sprintf("%q", want) || plain.Told(err) != wrong {
		t.Fatalf("%s is %q, %v, want %q, %v", call, got, err, want, wrong)
	}
}

// thrownWorkers are right, but now and then.
func thrownWorkers(random *rand.Rand) int {
	if random.Intn(12) == 0 {
		return noWorkers()[random.Intn(len(noWorkers()))]
	}
	return 1 + random.Intn(api.Groups)
}

var someThings = []string{"a", "b", "c", "ab", "", "\x00", "B", "é", "\xff", "a b"}

// thrownLists have few things or, now and then, about as many as may be.
func thrownLists(random *rand.Rand) [][]string {
	many := random.Intn(40)
	if random.Intn(20) == 0 {
		many = 396 + random.Intn(10)
	}
	l := make([][]string, random.Intn(3))
	for range many {
		if len(l) == 0 || random.Intn(6) == 0 {
			l = append(l, make([][]string, 1+random.Intn(2))...)
		}
		at := random.Intn(len(l))
		l[at] = append(l[at], someThings[random.Intn(len(someThings))])
	}
	return l
}

func TestListsBySecondWay(t *testing.T) {
	random := rand.New(rand.NewSource(1))
	seen := map[api.Errno]int{}
	for range 3000 {
		l, workers := thrownLists(random), thrownWorkers(random)
		got, err := spread.Again(l, workers)
		want, wrong := secondAgain(l, workers)
		seen[wrong]++
		same(t, fmt.Sprintf("Again(%q, %d)", l, workers), got, err, want, wrong)
		got, err = spread.Every(l, workers)
		want, wrong = secondEvery(l, workers)
		same(t, fmt.Sprintf("Every(%q, %d)", l, workers), got, err, want, wrong)
		if len(l) > 0 {
			got, err = spread.Even(l[0], workers)
			want, wrong = secondAgain(l[:1], workers)
			same(t, fmt.Sprintf("Even(%q, %d)", l[0], workers), got, err, want, wrong)
		}
	}
	if seen[api.OK] < 1500 || seen[api.ErrRange] < 150 || seen[api.ErrFull] < 30 {
		t.Errorf("too few were thrown: %v", seen)
	}
}

// thrownLoads have few loads or, now and then, about as many as may be; many
// of them are equal where they lie below a small one.
func thrownLoads(random *rand.Rand) []int {
	many, below := random.Intn(40), []int{1, 2, 5, 100, most + 1}[random.Intn(5)]
	if random.Intn(50) == 0 {
		many = 396 + random.Intn(10)
	}
	var load []int
	for range many {
		load = append(load, random.Intn(below))
	}
	if many > 0 && random.Intn(12) == 0 {
		load[random.Intn(many)] = noLoads()[random.Intn(len(noLoads()))]
	}
	return load
}

func TestLeastBySecondWay(t *testing.T) {
	random := rand.New(rand.NewSource(2))
	seen := map[api.Errno]int{}
	for range 3000 {
		load, workers := thrownLoads(random), thrownWorkers(random)
		got, err := spread.Least(load, workers)
		want, wrong := secondLeast(load, workers)
		seen[wrong]++
		if fmt.Sprint(got) != fmt.Sprint(want) || plain.Told(err) != wrong {
			t.Fatalf("Least(%v, %d) is %v, %v, want %v, %v", load, workers, got, err, want, wrong)
		}
	}
	if seen[api.OK] < 1500 || seen[api.ErrRange] < 300 || seen[api.ErrFull] < 15 {
		t.Errorf("too few were thrown: %v", seen)
	}
}
