package crew_test

import (
	"fmt"
	"reflect"
	"runtime"
	"sync"
	"testing"
	"time"

	"weirgate/api"
	"weirgate/crew"
)

// C1, how many workers there are makes no difference, nor how they take turns

func TestSameByAnyWorkersEachTime(t *testing.T) {
	l, data := nodes(t, everyKind), twoLists()
	want := wantAsAll(t, l, data, 1)
	many, err := crew.Count(l, data, 1)
	if err != nil || fmt.Sprint(many) != "[40 33 40 33 135 135 270 270 270 270 126 71]" {
		t.Fatalf("Count is %v, %v", many, err)
	}
	wantCount(t, l, data, 1, secondCount(l, data))
	for range 20 {
		for workers := 1; workers <= api.Groups; workers++ {
			if got, err := crew.Run(l, data, workers); !reflect.DeepEqual(got, want) || err != nil {
				t.Fatalf("Run by %d is %v, %v, want %v", workers, got, err, want)
			}
			wantCount(t, l, data, workers, many)
		}
	}
}

// The same with one thread, with two, and with many.
func TestSameByAnyThreads(t *testing.T) {
	defer runtime.GOMAXPROCS(runtime.GOMAXPROCS(0))
	for _, threads := range []int{1, 2, 5, 16} {
		runtime.GOMAXPROCS(threads)
		for _, workers := range someWorkers() {
			wantAsAll(t, nodes(t, everyKind), twoLists(), workers)
		}
	}
}

// Calls at the same time, on the same lists, do not touch each other.
func TestCallsSideBySide(t *testing.T) {
	l, data := nodes(t, everyKind), twoLists()
	full := nodes(t, "source 1\nsource 1\nunion 0 0 0 0\nunion 2 2 2 2\nunion 3 3 3 3\nsink 4\n")
	var all sync.WaitGroup
	for workers := 1; workers <= api.Groups; workers++ {
		all.Go(func() { wantAsAll(t, l, data, workers) })
		all.Go(func() { wantRefused(t, full, data, workers, api.ErrFull) })
		all.Go(func() { wantRefused(t, l, data, -workers, api.ErrRange) })
	}
	all.Wait()
}

// Where a call answers nobody is at work any more, be it refused or not.
func TestAllAreGone(t *testing.T) {
	before := runtime.NumGoroutine()
	for range 5 {
		wantAsAll(t, nodes(t, everyKind), twoLists(), 16)
		wantFault(t, nodes(t, "source 1\ncopy 0 3\ncopy 1 3\nsink 2\n"), [][]api.Record{inTurn(300)}, api.ErrFull)
	}
	for try := 0; runtime.NumGoroutine() > before; try++ { // the last ones may still be on their way out
		if try > 1_000 {
			t.Fatalf("there are %d at work, and were %d", runtime.NumGoroutine(), before)
		}
		time.Sleep(time.Millisecond)
	}
}
