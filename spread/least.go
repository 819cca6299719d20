package spread

import (
	"cmp"
	"slices"

	"weirgate/api"
)

func isNoLoad(load int) bool { return load < 0 || load > api.MaxTime }

// leastSoFar gives out loads that are right.
func leastSoFar(load []int, workers int) []int {
	who := make([]int, len(load))
	give := newGiver(workers)
	for _, at := range greatestFirst(load) {
		who[at] = give(load[at])
	}
	return who
}

// greatestFirst are the places of loads, from the greatest load on. Those of
// equal ones stay in their order, since the sorting is stable.
func greatestFirst(load []int) []int {
	places := make([]int, len(load))
	for at := range places {
		places[at] = at
	}
	slices.SortStableFunc(places, func(a, b int) int { return cmp.Compare(load[b], load[a]) })
	return places
}

// newGiver has nothing given out at first: it is told one load after the other,
// and tells which worker gets it.
func newGiver(workers int) func(load int) int {
	has := make([]int, workers)
	return func(load int) int {
		who := slices.Index(has, slices.Min(has))
		has[who] += load
		return who
	}
}
