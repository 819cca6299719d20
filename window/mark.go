package window

import (
	"slices"

	"weirgate/api"
)

// newMark is a mark at 0: it is told the Time of each record, and tells where
// it stands behind it.
func newMark(slack int) func(time int) int {
	mark := 0
	return func(time int) int {
		mark = max(mark, time-slack)
		return mark
	}
}

// leastMarks are, behind each record, the least marks of inputs that all have
// one.
func leastMarks(inputs [][]api.Record, slack int) []int {
	marks := make([]int, len(inputs))
	advance := make([]func(time int) int, len(inputs))
	longest := 0
	for at, one := range inputs {
		advance[at] = newMark(slack)
		longest = max(longest, len(one))
	}
	var least []int
	for turn := range longest {
		for at, one := range inputs {
			if turn < len(one) {
				marks[at] = advance[at](one[turn].Time)
				least = append(least, slices.Min(marks))
			}
		}
	}
	return least
}
