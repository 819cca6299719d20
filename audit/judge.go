package audit

import "weirgate/api"

// judge tells what is wrong with the numbers of one key, and at which place.
func judge(want, got []int) (kind, at int) {
	at = alike(want, got)
	switch {
	case len(want) == 0:
		return api.Foreign, 0
	case at < len(want) && at < len(got):
		return unlike(want, got, at), at
	case at < len(got):
		return api.Twice, at
	case at < len(want):
		return api.Missing, at
	}
	return api.Fine, 0
}

// alike is up to where both have the same.
func alike(want, got []int) int {
	at := 0
	for at < len(want) && at < len(got) && want[at] == got[at] {
		at++
	}
	return at
}

// unlike tells what it is that both differ at a place, the first such one.
func unlike(want, got []int, at int) int {
	switch {
	case isAmong(got[at:], want[at:]):
		return api.Crossed
	case at > 0 && got[at] == want[at-1]:
		return api.Twice
	}
	return api.Foreign
}

// isAmong tells whether each number stands, at least as often, among others.
func isAmong(nums, others []int) bool {
	take := newBag(others)
	for _, num := range nums {
		if !take(num) {
			return false
		}
	}
	return true
}

// newBag has numbers in it: a number is taken out of it, and it tells whether
// there was one more.
func newBag(nums []int) func(num int) bool {
	left := map[int]int{}
	for _, num := range nums {
		left[num]++
	}
	return func(num int) bool {
		left[num]--
		return left[num] >= 0
	}
}
