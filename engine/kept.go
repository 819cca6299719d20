package engine

import (
	"maps"
	"slices"

	"weirgate/api"
	"weirgate/group"
)

// kept is what a crash leaves: all as it was at a completed checkpoint. It
// does not hang on how many workers there are.
type kept struct {
	number  int                   // of the checkpoint; 0: none was completed
	places  [][]int               // by nodes and splits: how many records were handed over
	states  []map[string]api.Held // by nodes
	written []map[string][]int    // by nodes: what a Sink wrote, by keys
}

// newKept is what is kept at first.
func newKept(p *plan) *kept {
	k := &kept{}
	for own := range p.nodes {
		k.places = append(k.places, make([]int, len(p.splits[own])))
		k.states = append(k.states, map[string]api.Held{})
		k.written = append(k.written, map[string][]int{})
	}
	return k
}

// hand gives tasks that have done nothing yet what is kept of them.
func (k *kept) hand(tasks [][]*task) {
	for own, places := range k.places {
		for split, at := range places {
			tasks[own][split].at = at
		}
	}
	for own, states := range k.states {
		for key, state := range states {
			worker, _ := group.Owner(len(tasks[own]), group.Of(key))
			tasks[own][worker].states[key] = state
		}
	}
}

// sortedStates are all states, by Node, then Key.
func (k *kept) sortedStates() []api.Held {
	var all []api.Held
	for _, states := range k.states {
		for _, key := range slices.Sorted(maps.Keys(states)) {
			all = append(all, states[key])
		}
	}
	return all
}

// lines are what a Sink wrote, by keys.
func lines(written map[string][]int) []api.Line {
	var all []api.Line
	for _, key := range slices.Sorted(maps.Keys(written)) {
		all = append(all, api.Line{Key: key, Nums: slices.Clone(written[key])})
	}
	return all
}

// checkpoint is one that is under way: what the tasks that its barrier went
// through had then.
type checkpoint struct {
	number int
	next   *kept
	got    [][]api.Record // by nodes: what came to a Sink behind the last one
	left   int            // how many tasks its barrier has not gone through yet
}

func newCheckpoint(p *plan, number int, tasks [][]*task) *checkpoint {
	c := &checkpoint{number: number, next: newKept(p), got: make([][]api.Record, len(tasks))}
	for _, own := range tasks {
		c.left += len(own)
	}
	return c
}

// add is called for each task, once.
func (c *checkpoint) add(t *task) {
	if t.isSplit() {
		c.next.places[t.node][t.index] = t.at
	}
	maps.Copy(c.next.states[t.node], t.states)
	c.got[t.node] = append(c.got[t.node], t.got...)
	t.got = nil
	c.left--
}

// completed is what is kept then, in place of what was kept before.
func (c *checkpoint) completed(before *kept) *kept {
	c.next.number = c.number
	c.next.written = before.written
	for own, l := range c.got {
		for _, r := range l {
			written := c.next.written[own]
			written[r.Key] = append(written[r.Key], r.Num)
		}
	}
	return c.next
}
