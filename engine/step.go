package engine

import (
	"weirgate/api"
	"weirgate/den"
)

// ready are the tasks that may do a step, by nodes.
func (e *Engine) ready() []*task {
	var all []*task
	for _, tasks := range e.tasks {
		for _, t := range tasks {
			if e.isReady(t) {
				all = append(all, t)
			}
		}
	}
	return all
}

// isReady tells whether a task has something to do, and few enough wait of
// what it handed on. So the last of those that have something can always do
// it, and a lane of a gate never gets full.
func (e *Engine) isReady(t *task) bool {
	if t.unread >= api.MaxQueue {
		return false
	}
	if !t.isSplit() {
		return t.gate.Ready()
	}
	// While a checkpoint is under way a split hands over nothing but its
	// barrier: so what was handed over by the time that it is completed is
	// just what was handed over ahead of the barriers.
	if e.under != nil {
		return t.passed < e.under.number
	}
	return t.at < len(t.records)
}

// work does the step of a task that is ready.
func (e *Engine) work(t *task) {
	r, input, ok := e.next(t)
	if !ok {
		e.pass(t)
		return
	}
	one := e.plan.nodes[t.node]
	state, has := t.states[r.Key]
	made, state, has := den.Apply(one, state, has, r, input)
	if has {
		state.Node = t.node
		t.states[r.Key] = state
	}
	if one.Kind == api.Sink {
		t.got = append(t.got, made...)
	}
	for _, r := range made {
		t.handOn(r)
	}
}

// next is the record that a task is to work on, and which of From it came
// from; false: it is a barrier's turn.
func (e *Engine) next(t *task) (r api.Record, input int, ok bool) {
	if !t.isSplit() {
		return t.take()
	}
	if e.under != nil {
		t.passed = e.under.number
		return api.Record{}, 0, false
	}
	r = t.records[t.at]
	t.at++
	return r, 0, true
}

// pass lets the barrier of the checkpoint go through a task. The last one that
// it goes through completes it.
func (e *Engine) pass(t *task) {
	e.under.add(t)
	t.bar(e.under.number)
	if e.under.left > 0 {
		return
	}
	e.kept = e.under.completed(e.kept)
	e.done = append(e.done, e.under.number)
	e.under = nil
}
