package run

import (
	"strings"

	"weirgate/api"
	"weirgate/den"
	"weirgate/engine"
	"weirgate/expr"
	"weirgate/group"
	"weirgate/job"
)

// mostSources are how many Sources may have data.
const mostSources = 4

// session is what the lines of a text have come to so far.
type session struct {
	nodes  []api.Node
	data   [mostSources][]api.Record
	engine *engine.Engine // nil: there is none
}

// take does what a line says.
func (s *session) take(line string) (string, error) {
	words := strings.Split(line, " ")
	row, do := s.row(words[0])
	if do == nil {
		return "", errBad
	}
	all, err := read(words[1:], row)
	if err != nil {
		return "", err
	}
	return do(all)
}

// row tells which words stand behind the first one, and what they do; nil:
// there is no such row.
func (s *session) row(first string) (row string, do func(said) (string, error)) {
	switch first {
	case "node":
		return "N NS N TEXT", s.node
	case "put":
		return "N KEY N N", s.put
	case "check":
		return "", s.check
	case "all":
		return "", s.all
	case "start":
		return "N", s.start
	case "steps":
		return "N N", s.asked(steps)
	case "trigger":
		return "", s.asked(trigger)
	case "crash":
		return "N", s.asked(crash)
	case "written":
		return "", s.asked(written)
	case "lag":
		return "", s.asked(lag)
	case "eval":
		return "TEXT N N", eval
	case "owner":
		return "N N", owner
	}
	return "", nil
}

func (s *session) node(w said) (string, error) {
	one := api.Node{Kind: w.nums[0], From: w.list, N: w.nums[1], Text: w.word}
	if one.Text == "-" {
		one.Text = ""
	}
	s.nodes = append(s.nodes, one)
	s.engine = nil
	return number(len(s.nodes), nil)
}

func (s *session) put(w said) (string, error) {
	at := w.nums[0]
	if at < 0 || at >= mostSources {
		return "", errBad
	}
	s.data[at] = append(s.data[at], api.Record{Key: w.word, Num: w.nums[1], Time: w.nums[2]})
	s.engine = nil
	return taken, nil
}

// lists are the records of each Source that the job has by now. A job that is
// wrong has none, which matters to no call: what is wrong is told first.
func (s *session) lists() [][]api.Record {
	sources, _ := job.Sources(s.nodes)
	all := make([][]api.Record, len(sources))
	copy(all, s.data[:])
	return all
}

func (s *session) check(said) (string, error) { return taken, job.Check(s.nodes) }

func (s *session) all(said) (string, error) { return sinks(den.All(s.nodes, s.lists())) }

func (s *session) start(w said) (string, error) {
	e, err := engine.New(s.nodes, s.lists(), w.nums[0])
	if err != nil {
		return "", err
	}
	s.engine = e
	return taken, nil
}

// asked is what only an Engine answers, of the numbers of a line.
func (s *session) asked(ask func(e *engine.Engine, nums []int) (string, error)) func(said) (string, error) {
	return func(w said) (string, error) {
		if s.engine == nil {
			return "", api.ErrState
		}
		return ask(s.engine, w.nums)
	}
}

func steps(e *engine.Engine, nums []int) (string, error) {
	done := 0
	for done < nums[0] && e.Step(nums[1]) {
		done++
	}
	return number(done, nil)
}

func trigger(e *engine.Engine, _ []int) (string, error) { return number(e.Trigger()) }

func crash(e *engine.Engine, nums []int) (string, error) { return taken, e.Crash(nums[0]) }

func written(e *engine.Engine, _ []int) (string, error) { return sinks(e.Written(), nil) }

func lag(e *engine.Engine, _ []int) (string, error) { return number(e.Lag(), nil) }

func eval(w said) (string, error) { return number(expr.Eval(w.word, w.nums[0], w.nums[1])) }

func owner(w said) (string, error) { return number(group.Owner(w.nums[0], w.nums[1])) }
