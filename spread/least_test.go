package spread_test

import (
	"fmt"
	"math/rand"
	"slices"
	"testing"

	"weirgate/api"
	"weirgate/spread"
)

// S1, Least

func TestLeastKnown(t *testing.T) {
	wantLeast(t, []int{5}, 1, "[0]")
	wantLeast(t, []int{5}, 16, "[0]")
	wantLeast(t, []int{3, 8, 5}, 1, "[0 0 0]")
	wantLeast(t, []int{3, 8, 5}, 2, "[1 0 1]")
	wantLeast(t, []int{8, 5, 3}, 2, "[0 1 1]")
	wantLeast(t, []int{3, 5, 8}, 2, "[1 1 0]")
	wantLeast(t, []int{1, 2, 3, 4}, 3, "[2 2 1 0]")
	wantLeast(t, []int{1, 2, 3, 4}, 16, "[3 2 1 0]")
	wantLeast(t, []int{4, 1, 1, 1, 1}, 2, "[0 1 1 1 1]")
	wantLeast(t, []int{6, 8, 4, 4, 0, 7}, 4, "[2 0 3 3 2 1]")
}

func TestLeastOfNone(t *testing.T) {
	for workers := 1; workers <= api.Groups; workers++ {
		wantLeast(t, nil, workers, "[]")
		wantLeast(t, []int{}, workers, "[]")
	}
}

// Of equal loads the first one goes first, and of workers that have as much the
// first one gets it.
func TestLeastOfEqualOnes(t *testing.T) {
	wantLeast(t, []int{7, 7, 7, 7, 7}, 3, "[0 1 2 0 1]")
	wantLeast(t, []int{7, 8, 7}, 3, "[1 0 2]")
	wantLeast(t, []int{2, 9, 2, 9, 2, 2}, 2, "[0 0 1 1 0 1]")
	wantLeast(t, []int{3, 1, 2}, 2, "[0 1 1]")
	wantLeast(t, []int{3, 2, 1, 1, 1}, 2, "[0 1 1 0 1]")
	for workers := 1; workers <= api.Groups; workers++ {
		for _, load := range []int{1, 77, most} {
			var want []int
			for i := range api.MaxItems {
				want = append(want, i%workers)
			}
			wantLeast(t, alike(api.MaxItems, load), workers, fmt.Sprint(want))
		}
	}
}

// A load of 0 leaves who has the least where that was.
func TestLeastOfZeroAndMost(t *testing.T) {
	wantLeast(t, []int{0}, 2, "[0]")
	wantLeast(t, []int{0, 0, 0}, 3, "[0 0 0]")
	wantLeast(t, []int{0, 1, 0}, 3, "[1 0 1]")
	wantLeast(t, []int{0, 1, 0, 1}, 2, "[0 0 0 1]")
	wantLeast(t, []int{most}, 2, "[0]")
	wantLeast(t, []int{0, most, 1, most - 1}, 2, "[0 0 1 1]")
	wantLeast(t, []int{most - 1, most, 1, 1, 0}, 2, "[1 0 1 0 1]")
}

// Sorting that is not stable would show in longer lists only.
func TestLeastOfManyEqualOnes(t *testing.T) {
	var load, want []int
	for i := range 300 {
		load = append(load, 1+i%3)
		// those of 3 go to workers 0 and 1 in turn, then those of 2, then those of 1
		want = append(want, i/3%2)
	}
	wantLeast(t, load, 2, fmt.Sprint(want))
}

// S1, Graham

// heaviest is what the worker has that has most.
func heaviest(load, who []int, workers int) int {
	has := make([]int, workers)
	for i, worker := range who {
		has[worker] += load[i]
	}
	return slices.Max(has)
}

// leastThatCanBe goes over all ways to give loads out.
func leastThatCanBe(load []int, workers int) int {
	who := make([]int, len(load))
	best := greatest
	var from func(at int)
	from = func(at int) {
		if at == len(load) {
			best = min(best, heaviest(load, who, workers))
			return
		}
		for who[at] = 0; who[at] < workers; who[at]++ {
			from(at + 1)
		}
	}
	from(0)
	return best
}

// wantGraham holds, in thirds of what can be least, over workers, that no
// worker has too much; it tells whether one has just as much as may be, and
// whether one has more than the least.
func wantGraham(t *testing.T, load []int, workers int) (tight, more bool) {
	t.Helper()
	who, err := spread.Least(load, workers)
	if err != nil || len(who) != len(load) {
		t.Fatalf("Least(%v, %d) is %v, %v", load, workers, who, err)
	}
	has, best := heaviest(load, who, workers), leastThatCanBe(load, workers)
	bound := 4*best*workers - best
	if 3*workers*has > bound {
		t.Errorf("Least(%v, %d) is %v: one has %d, where %d can be", load, workers, who, has, best)
	}
	return 3*workers*has == bound, has > best
}

func TestGrahamIsReached(t *testing.T) {
	for _, c := range []struct {
		load    []int
		workers int
	}{
		{[]int{2, 3, 2, 3, 2}, 2},
		{[]int{3, 5, 4, 3, 5, 4, 3}, 3},
	} {
		if tight, _ := wantGraham(t, c.load, c.workers); !tight {
			t.Errorf("Least(%v, %d) is better than told", c.load, c.workers)
		}
	}
}

// All lists of up to five loads, of 0 to 4.
func TestGrahamOfAllFew(t *testing.T) {
	for many, lists := 0, 1; many <= 5; many, lists = many+1, 5*lists {
		for number := range lists {
			var load []int
			for rest := number; len(load) < many; rest /= 5 {
				load = append(load, rest%5)
			}
			for workers := 1; workers <= 3; workers++ {
				wantGraham(t, load, workers)
			}
		}
	}
}

func TestGrahamOfThrown(t *testing.T) {
	random := rand.New(rand.NewSource(17))
	worse := 0
	for range 300 {
		load, below := []int{}, []int{8, 30, most + 1}[random.Intn(3)]
		for range 4 + random.Intn(4) {
			load = append(load, random.Intn(below))
		}
		if _, more := wantGraham(t, load, 2+random.Intn(3)); more {
			worse++
		}
	}
	if worse < 20 {
		t.Errorf("only %d could be given out better", worse)
	}
}
