package run

import (
	"errors"
	"strconv"
	"strings"
)

// errBad is what is wrong with a line that cannot be read.
var errBad = errors.New("bad")

// mostNumber is the greatest number of nine digits, the most that one may have.
const mostNumber = 999_999_999

// said is what the words of a line say.
type said struct {
	nums []int  // each N
	list []int  // NS
	word string // TEXT or KEY
}

// read tells what words say, if they are just as many as those of their row,
// which has a blank between, and of its kinds.
func read(words []string, row string) (said, error) {
	kinds := strings.Fields(row)
	if len(words) != len(kinds) {
		return said{}, errBad
	}
	var all said
	for i, kind := range kinds {
		if !all.add(kind, words[i]) {
			return said{}, errBad
		}
	}
	return all, nil
}

// add takes a word of a kind; false: it is none.
func (all *said) add(kind, word string) (ok bool) {
	switch kind {
	case "N":
		all.nums, ok = withNumber(all.nums, word)
		return ok
	case "NS":
		all.list, ok = numbers(word)
		return ok
	}
	all.word = word
	return true
}

// numbers are those of a NS.
func numbers(word string) (list []int, ok bool) {
	if word == "-" {
		return nil, true
	}
	for _, one := range strings.Split(word, ",") {
		if list, ok = withNumber(list, one); !ok {
			return nil, false
		}
	}
	return list, true
}

// withNumber reads a word by writing: what is written otherwise, be it by a
// needless 0, is no number.
func withNumber(nums []int, word string) ([]int, bool) {
	num, err := strconv.Atoi(word)
	ok := err == nil && -mostNumber <= num && num <= mostNumber && strconv.Itoa(num) == word
	return append(nums, num), ok
}
