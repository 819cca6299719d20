package engine

import (
	"strings"

	"weirgate/api"
	"weirgate/den"
	"weirgate/group"
	"weirgate/job"
)

// plan is what an Engine is told at its beginning, and never changes.
type plan struct {
	text   string // the job, as it is printed
	nodes  []api.Node
	splits [][][]api.Record // by nodes: only a Source has some
}

// newPlan tells what is wrong with a job and its data, too.
func newPlan(l []api.Node, data [][]api.Record) (*plan, error) {
	if _, err := den.All(l, data); err != nil {
		return nil, err
	}
	text, err := job.Print(l)
	if err != nil {
		return nil, err
	}
	nodes, _, err := job.Parse(text) // so that nothing of the list is kept
	if err != nil {
		return nil, err
	}
	p := &plan{text: text, nodes: nodes, splits: make([][][]api.Record, len(nodes))}
	for own, one := range nodes {
		if one.Kind == api.Source {
			p.splits[own] = inSplits(data[0], one.N)
			data = data[1:]
		}
	}
	return p, nil
}

// inSplits are records in so many splits, which is a number that may be.
func inSplits(l []api.Record, many int) [][]api.Record {
	splits := make([][]api.Record, many)
	for _, r := range l {
		r.Key = strings.Clone(r.Key) // it may be a piece of a far longer text, which would stay with it
		at, _ := group.Split(r.Key, many)
		splits[at] = append(splits[at], r)
	}
	return splits
}
