package run

import (
	"errors"
	"strconv"
	"strings"

	"weirgate/api"
)

// taken is the answer to what is taken, where no other one is told.
const taken = "ok"

// told is the line that is told: an answer holds only where nothing is wrong.
func told(answer string, err error) string {
	var which api.Errno
	switch {
	case errors.Is(err, errBad):
		return "bad"
	case errors.As(err, &which):
		return which.Error()
	}
	return answer
}

// number is the answer that is one.
func number(num int, err error) (string, error) { return strconv.Itoa(num), err }

// sinks is the answer of what each Sink got, or wrote.
func sinks(all [][]api.Line, err error) (string, error) { return joined(all, ";", sinkText), err }

func sinkText(l []api.Line) string {
	if len(l) == 0 {
		return "-"
	}
	return joined(l, " ", lineText)
}

func lineText(one api.Line) string { return one.Key + "=" + joined(one.Nums, ",", strconv.Itoa) }

// joined writes things with a text between.
func joined[T any](things []T, between string, written func(T) string) string {
	var texts []string
	for _, one := range things {
		texts = append(texts, written(one))
	}
	return strings.Join(texts, between)
}
