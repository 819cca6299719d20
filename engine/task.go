package engine

import (
	"weirgate/api"
	"weirgate/gate"
	"weirgate/group"
)

// task is what does steps: a split of a Source, or a worker at another node.
// What it hands on goes to one worker of each node that has it in From, by
// ways that keep its order. Records of one key all come to a node from one
// task, since what a Sub or a Union writes into a key still tells which key,
// of which input, it was: so they stay in their order, whoever does the next
// step.
type task struct {
	node, index int // index is its number at the node
	ways        []way
	unread      int // how many that it handed on still wait, barriers too

	// of a split
	records []api.Record
	at      int // how many of them were handed over
	passed  int // the last barrier that it passed

	// of a worker
	gate   *gate.Gate
	feeds  []feed // by inputs of the gate
	states map[string]api.Held
	got    []api.Record // at a Sink: what came behind the last barrier
}

// way leads to all workers of a node.
type way struct {
	to    []*task
	input int // of their gates
}

// feed is what comes to an input of a gate.
type feed struct {
	from  *task
	input int // which of From it is
}

// newTasks makes those of all nodes, by nodes, with nothing done yet.
func newTasks(p *plan, workers int) [][]*task {
	tasks := make([][]*task, len(p.nodes))
	for own, one := range p.nodes {
		if one.Kind == api.Source {
			for split := range one.N {
				tasks[own] = append(tasks[own], &task{node: own, index: split, records: p.splits[own][split]})
			}
			continue
		}
		for worker := range workers {
			tasks[own] = append(tasks[own], &task{node: own, index: worker, states: map[string]api.Held{}})
		}
		for input, from := range one.From {
			for _, t := range tasks[from] {
				t.leadTo(tasks[own], input)
			}
		}
		for _, t := range tasks[own] {
			// A gate has as many inputs as the most workers at the most of From.
			t.gate, _ = gate.New(len(t.feeds))
		}
	}
	return tasks
}

// leadTo lays a way to the workers of a node that has it as the input-th of
// From.
func (t *task) leadTo(to []*task, input int) {
	t.ways = append(t.ways, way{to: to, input: len(to[0].feeds)})
	for _, worker := range to {
		worker.feeds = append(worker.feeds, feed{from: t, input: input})
	}
}

func (t *task) isSplit() bool { return t.gate == nil }

// handOn lets a record wait at the worker that has its key, of each node. There
// is room: a task does a step only while few of its own still wait.
func (t *task) handOn(r api.Record) {
	for _, w := range t.ways {
		worker, _ := group.Owner(len(w.to), group.Of(r.Key))
		w.to[worker].gate.Push(w.input, r)
		t.unread++
	}
}

// bar lets a barrier wait at all workers.
func (t *task) bar(id int) {
	for _, w := range t.ways {
		for _, worker := range w.to {
			worker.gate.Bar(w.input, id)
			t.unread++
		}
	}
}

// take takes what comes next through a worker's gate: a record, and which of
// From it came from; false: it is a barrier that came to all inputs.
func (t *task) take() (r api.Record, input int, ok bool) {
	r, at, ok := t.gate.Next()
	if ok {
		t.feeds[at].from.unread--
		return r, t.feeds[at].input, true
	}
	t.gate.Bound()
	for _, f := range t.feeds {
		f.from.unread--
	}
	return api.Record{}, 0, false
}
