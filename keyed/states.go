package keyed

import (
	"maps"
	"slices"

	"weirgate/api"
	"weirgate/frame"
	"weirgate/group"
)

// place is what a state is of.
type place struct {
	node int
	key  string
}

func placeOf(h api.Held) place { return place{h.Node, h.Key} }

// states have one at each place at most.
type states map[place]api.Held

func (s states) put(l ...api.Held) {
	for _, h := range l {
		s[placeOf(h)] = h
	}
}

func (s states) sorted() []api.Held {
	return slices.SortedFunc(maps.Values(s), frame.Compare)
}

// isRange tells whether these are groups, from low on, below high.
func isRange(low, high int) bool {
	return 0 <= low && low <= high && high <= api.Groups
}

// within leaves of a list the states whose keys are of groups from low on,
// below high. The list is the caller's own: it is written into.
func within(l []api.Held, low, high int) []api.Held {
	return slices.DeleteFunc(l, func(h api.Held) bool {
		g := group.Of(h.Key)
		return g < low || g >= high
	})
}
