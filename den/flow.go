package den

import (
	"slices"
	"strings"

	"weirgate/api"
)

// checkData tells what is wrong with the records of so many Sources.
func checkData(data [][]api.Record, sources int) error {
	if len(data) != sources {
		return api.ErrShape
	}
	for _, l := range data {
		if len(l) > api.MaxData {
			return api.ErrFull
		}
		for _, r := range l {
			if !IsRecord(r) {
				return api.ErrRange
			}
		}
	}
	return nil
}

// IsRecord tells whether a record's Key and Time are such as may be.
func IsRecord(r api.Record) bool {
	return len(r.Key) <= api.MaxKey && r.Time >= 0 && r.Time <= api.MaxTime
}

// flow tells what each node of a right job hands on. It goes node by node,
// since a node has only those ahead of it in From. Records of one key stay in
// their order: a Union, the only one with several inputs, writes into the key
// from which it came, so that all of one key have come one way.
func flow(l []api.Node, data [][]api.Record) ([][]api.Record, error) {
	handed := make([][]api.Record, len(l))
	for own, one := range l {
		var got [][]api.Record
		for _, from := range one.From {
			got = append(got, handed[from])
		}
		if one.Kind == api.Source {
			got, data = data[:1], data[1:]
		}
		made, err := handOn(one, got)
		if err != nil {
			return nil, err
		}
		handed[own] = made
	}
	return handed, nil
}

// handOn is what a node hands on of what it got, input by input.
func handOn(one api.Node, got [][]api.Record) ([]api.Record, error) {
	work := atWork(one)
	var out []api.Record
	for input, l := range got {
		for _, r := range l {
			out = append(out, work(r, input)...)
			if len(out) > api.MaxFlow {
				return nil, api.ErrFull
			}
		}
	}
	return out, nil
}

// atWork is a node that has no states yet, and keeps those that it comes to
// have.
func atWork(one api.Node) func(r api.Record, input int) []api.Record {
	states := map[string]api.Held{}
	return func(r api.Record, input int) []api.Record {
		state, has := states[r.Key]
		out, state, has := Apply(one, state, has, r, input)
		if has {
			states[r.Key] = state
		}
		return out
	}
}

// lines are records by their keys.
func lines(l []api.Record) []api.Line {
	places := map[string]int{}
	var out []api.Line
	for _, r := range l {
		at, ok := places[r.Key]
		if !ok {
			at = len(out)
			places[r.Key] = at
			out = append(out, api.Line{Key: r.Key})
		}
		out[at].Nums = append(out[at].Nums, r.Num)
	}
	slices.SortFunc(out, func(a, b api.Line) int { return strings.Compare(a.Key, b.Key) })
	return out
}
