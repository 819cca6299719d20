package den

import (
	"strconv"

	"weirgate/api"
	"weirgate/expr"
)

// mostCopies is as many records, of 32 bytes each, as 2^31 - 1 bytes hold: of
// more nothing is promised (P5), and a call that began them might never end.
const mostCopies = (1<<31 - 1) / 32

// Apply does what a node does with a record.
func Apply(n api.Node, state api.Held, has bool, r api.Record, input int) ([]api.Record, api.Held, bool) {
	if !has {
		state = api.Held{}
	}
	var made api.Record
	var many int
	if HasState(n.Kind) {
		made, many, state = counted(n, state, has, r)
		has = true
	} else {
		made, many = turned(n, r, input)
	}
	if has {
		state.Node, state.Key = 0, r.Key
	}
	return copies(made, many), state, has
}

// HasState tells whether nodes of a kind have states.
func HasState(kind int) bool {
	return kind == api.Fold || kind == api.Every || kind == api.First
}

// turned is the record that a node without states makes of one, and how often.
func turned(n api.Node, r api.Record, input int) (api.Record, int) {
	switch n.Kind {
	case api.Source, api.Sink:
		return r, 1
	case api.Map:
		r.Num = value(n.Text, r.Num, 0)
		return r, 1
	case api.Filter:
		if value(n.Text, r.Num, 0) != 0 {
			return r, 1
		}
	case api.Sub:
		r.Key += "/" + strconv.Itoa(value(n.Text, r.Num, 0))
		return r, 1
	case api.Copy:
		return r, n.N
	case api.Union:
		r.Key = strconv.Itoa(input) + ":" + r.Key
		return r, 1
	}
	return r, 0
}

// counted is the record that a node with states makes of one, how often, and
// the state then.
func counted(n api.Node, state api.Held, has bool, r api.Record) (api.Record, int, api.Held) {
	switch n.Kind {
	case api.Fold:
		state.A = value(n.Text, r.Num, state.A)
		r.Num = state.A
		return r, 1, state
	case api.Every:
		full := state.A >= n.N || state.A+1 >= n.N // the greatest A has none that is one more
		state.A++
		state.B += r.Num
		if full {
			r.Num = state.B
			state.A, state.B = 0, 0
			return r, 1, state
		}
	case api.First:
		state.A = 1
		if !has {
			return r, 1, state
		}
	}
	return r, 0, state
}

// value is what a Text comes to: 0, as Eval has it, if it is no expression.
func value(text string, n, s int) int {
	num, _ := expr.Eval(text, n, s)
	return num
}

// copies are what is handed on of a record that was made so often.
func copies(r api.Record, many int) []api.Record {
	if len(r.Key) > api.MaxKey || many > mostCopies {
		return nil
	}
	var out []api.Record
	for range many {
		out = append(out, r)
	}
	return out
}
