package audit

import (
	"slices"

	"weirgate/api"
)

// checkBoth tells what is wrong with the first of two lists or, if nothing is,
// with the second one.
func checkBoth(a, b []api.Line) error {
	if err := Check(a); err != nil {
		return err
	}
	return Check(b)
}

// byKey has none of a key's numbers only where the lines have not the key: a
// line without numbers is refused ahead of it.
func byKey(l []api.Line) map[string][]int {
	nums := map[string][]int{}
	for _, line := range l {
		nums[line.Key] = line.Nums
	}
	return nums
}

// allKeys are the keys of both, each once, rising.
func allKeys(a, b []api.Line) []string {
	var keys []string
	for _, line := range slices.Concat(a, b) {
		keys = append(keys, line.Key)
	}
	slices.Sort(keys)
	return slices.Compact(keys)
}

// many is how many numbers all lines have.
func many(l []api.Line) int {
	all := 0
	for _, line := range l {
		all += len(line.Nums)
	}
	return all
}
