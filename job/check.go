package job

import (
	"slices"

	"weirgate/api"
	"weirgate/expr"
)

func hasN(kind int) bool {
	return kind == api.Source || kind == api.Copy || kind == api.Every
}

func hasText(kind int) bool {
	return kind == api.Map || kind == api.Filter || kind == api.Sub || kind == api.Fold
}

// checkNode tells what is wrong with a node, if those ahead of it are right.
func checkNode(l []api.Node, own int) error {
	one := l[own]
	if one.Kind < api.Source || one.Kind > api.Sink {
		return api.ErrRange
	}
	if low, high := inputs(one.Kind); len(one.From) < low || len(one.From) > high {
		return api.ErrShape
	}
	for _, from := range one.From {
		if err := checkFrom(l[:own], from); err != nil {
			return err
		}
	}
	return checkOwn(one)
}

// inputs are how many numbers of From a kind has at least and at most.
func inputs(kind int) (low, high int) {
	switch kind {
	case api.Source:
		return 0, 0
	case api.Union:
		return 1, api.MaxIn
	}
	return 1, 1
}

func checkFrom(ahead []api.Node, from int) error {
	if from < 0 || from >= len(ahead) {
		return api.ErrRange
	}
	if ahead[from].Kind == api.Sink {
		return api.ErrState
	}
	return nil
}

// checkOwn tells what is wrong with a node's Text and N.
func checkOwn(one api.Node) error {
	if one.Text != "" && !hasText(one.Kind) || one.N != 0 && !hasN(one.Kind) {
		return api.ErrShape
	}
	if low, high := bounds(one.Kind); one.N < low || one.N > high {
		return api.ErrRange
	}
	if !hasText(one.Kind) {
		return nil
	}
	_, err := expr.Check(one.Text)
	return err
}

// bounds are between which numbers the N of a kind is; without one it is 0.
func bounds(kind int) (low, high int) {
	switch kind {
	case api.Source:
		return 1, api.MaxSplit
	case api.Copy:
		return 0, api.MaxCopy
	case api.Every:
		return 1, api.MaxItems
	}
	return 0, 0
}

// checkEnds tells if there is something that comes in and goes out, in a job
// whose nodes are right.
func checkEnds(l []api.Node) error {
	for _, kind := range [...]int{api.Source, api.Sink} {
		if !slices.ContainsFunc(l, func(one api.Node) bool { return one.Kind == kind }) {
			return api.ErrNone
		}
	}
	return nil
}
