package spread_test

import (
	"testing"

	"weirgate/api"
)

// S1, what is wrong

// oneByOne are things, each in a list of its own, with empty ones between.
func oneByOne(things []string) [][]string {
	var l [][]string
	for _, thing := range things {
		l = append(l, nil, []string{thing})
	}
	return append(l, nil)
}

// listsOf are as many things in lists of different kinds.
func listsOf(many int) [][][]string {
	things := numbered(many)
	return [][][]string{
		{things},
		{nil, things, {}},
		{things[:1], things[1:]},
		{things[:many/2], things[many/2:]},
		{things[:many-1], nil, things[many-1:]},
		oneByOne(things),
	}
}

// allTell holds all four calls of so many things or loads.
func allTell(t *testing.T, many, workers int, want api.Errno) {
	t.Helper()
	evenTells(t, numbered(many), workers, want)
	for _, l := range listsOf(many) {
		listsTell(t, l, workers, want)
	}
	leastTells(t, alike(many, 1), workers, want)
}

func TestWorkersFromOneToGroups(t *testing.T) {
	for workers := 1; workers <= api.Groups; workers++ {
		allTell(t, 20, workers, api.OK)
	}
	for _, workers := range noWorkers() {
		allTell(t, 20, workers, api.ErrRange)
		evenTells(t, nil, workers, api.ErrRange)
		listsTell(t, nil, workers, api.ErrRange)
		listsTell(t, [][]string{nil, {}}, workers, api.ErrRange)
		leastTells(t, nil, workers, api.ErrRange)
	}
}

// What is counted is what is handed in, however many get it.
func TestMostItems(t *testing.T) {
	for workers := 1; workers <= api.Groups; workers++ {
		allTell(t, api.MaxItems-1, workers, api.OK)
		allTell(t, api.MaxItems, workers, api.OK)
		allTell(t, api.MaxItems+1, workers, api.ErrFull)
		allTell(t, 3*api.MaxItems, workers, api.ErrFull)
	}
}

// Lists are not counted, only what is in them.
func TestMoreListsThanItems(t *testing.T) {
	listsTell(t, make([][]string, 10*api.MaxItems), 3, api.OK)
	listsTell(t, append(make([][]string, 10*api.MaxItems), numbered(api.MaxItems)), 3, api.OK)
	listsTell(t, append(make([][]string, 10*api.MaxItems), numbered(api.MaxItems+1)), 3, api.ErrFull)
}

func TestWrongWorkersComeFirst(t *testing.T) {
	for _, workers := range noWorkers() {
		allTell(t, api.MaxItems+1, workers, api.ErrRange)
		leastTells(t, []int{-1}, workers, api.ErrRange)
		leastTells(t, alike(api.MaxItems+1, -1), workers, api.ErrRange)
	}
}

func TestLoadsFromZeroToMost(t *testing.T) {
	for _, workers := range []int{1, 2, 3, api.Groups} {
		leastTells(t, []int{0}, workers, api.OK)
		leastTells(t, []int{most}, workers, api.OK)
		leastTells(t, append(alike(200, 0), alike(200, most)...), workers, api.OK)
		for _, wrong := range noLoads() {
			leastTells(t, []int{wrong}, workers, api.ErrRange)
			for _, place := range []int{0, 1, 200, api.MaxItems - 1} {
				load := alike(api.MaxItems, 5)
				load[place] = wrong
				leastTells(t, load, workers, api.ErrRange)
				leastTells(t, append(load, 5), workers, api.ErrFull)
			}
			leastTells(t, append(alike(api.MaxItems, 5), wrong), workers, api.ErrFull)
		}
	}
}
