package engine_test

import (
	"fmt"
	"math/rand"
	"testing"

	"weirgate/api"
	"weirgate/den"
	"weirgate/engine"
)

// R4

// player does thrown things to an Engine, and holds behind each what R4 tells.
type player struct {
	*testing.T
	random *rand.Rand
	l      []api.Node
	data   [][]api.Record
	want   [][]api.Line

	e       *engine.Engine
	before  [][]api.Line
	lag     int   // of what is kept
	done    []int // as Done must be
	last    int   // the number that was triggered last
	pending bool
}

func newPlayer(t *testing.T, random *rand.Rand, most int) *player {
	p := &player{T: t, random: random}
	p.l, p.data = thrown(t, random, most)
	p.want = all(t, p.l, p.data)
	p.e = made(t, p.l, p.data, p.workers())
	p.before = p.e.Written()
	p.lag = p.e.Lag()
	return p
}

func (p *player) workers() int { return 1 + p.random.Intn(16) }

// hold holds that what is written is the beginning of what comes of all, and
// begins with what was written ahead; and what is done.
func (p *player) hold() {
	p.Helper()
	written := p.e.Written()
	for i := range written {
		if !den.Prefix(written[i], p.want[i]) || !den.Prefix(p.before[i], written[i]) {
			p.Fatalf("of %v, %v, written is %v, behind %v, of all %v", p.l, p.data, written, p.before, p.want)
		}
	}
	p.before = written
	wantDone(p.T, p.e, p.done...)
	if p.Failed() {
		p.Fatalf("job %v, data %v", p.l, p.data)
	}
}

func (p *player) step() {
	p.e.Step(p.random.Int() - p.random.Int())
	if p.pending && len(p.e.Done()) > len(p.done) {
		p.pending = false
		p.done = append(p.done, p.last)
		p.lag = wantKept(p.T, p.e, p.l, p.data)
		wantLag(p.T, p.e, p.lag)
	}
}

func (p *player) trigger() {
	number, err := p.e.Trigger()
	if p.pending {
		wantTold(p.T, err, api.ErrState)
		return
	}
	p.last++
	if number != p.last || err != nil {
		p.Errorf("Trigger is %d, %v, want %d", number, err, p.last)
	}
	p.pending = true
}

func (p *player) crash() {
	states := fmt.Sprint(p.e.States())
	wantCrashed(p.T, p.e, p.workers())
	p.pending = false
	wantLag(p.T, p.e, p.lag)
	if now := fmt.Sprint(p.e.States()); now != states {
		p.Errorf("the states become %s, of %s", now, states)
	}
}

// restore goes on with another Engine, of a picture.
func (p *player) restore() {
	picture, number := p.e.Picture()
	states := fmt.Sprint(p.e.States())
	p.e = restored(p.T, p.l, p.data, picture, p.workers())
	p.pending, p.last, p.done = false, number, nil
	if number > 0 {
		p.done = []int{number}
	}
	wantLag(p.T, p.e, p.lag)
	if now := fmt.Sprint(p.e.States()); now != states {
		p.Errorf("the states become %s, of %s", now, states)
	}
}

func TestExactlyOnce(t *testing.T) {
	random := rand.New(rand.NewSource(7))
	kinds := map[int]int{}
	crashes, restores, full := 0, 0, 0
	for range 400 {
		p := newPlayer(t, random, 20)
		for range random.Intn(400) {
			switch n := random.Intn(100); {
			case n < 3:
				p.crash()
				crashes++
			case n < 4:
				p.restore()
				restores++
			case n < 12:
				p.trigger()
			default:
				p.step()
			}
			p.hold()
		}
		for _, one := range p.l {
			kinds[one.Kind]++
		}
		if p.lag > 0 {
			full++
		}
		wantEnds(t, p.e, p.want)
		if t.Failed() {
			t.Fatalf("job %v, data %v", p.l, p.data)
		}
	}
	if len(kinds) != 10 || crashes < 1000 || restores < 300 || full < 100 {
		t.Errorf("too few of a thing were thrown: %v, %d, %d, %d", kinds, crashes, restores, full)
	}
}

// The same with fewer, longer plays, in which there are many records.
func TestExactlyOnceOfMany(t *testing.T) {
	random := rand.New(rand.NewSource(8))
	for range 12 {
		p := newPlayer(t, random, 300)
		for i := range 3000 {
			switch n := random.Intn(1000); {
			case n < 2:
				p.crash()
			case n < 10:
				p.trigger()
			default:
				p.step()
			}
			if i%20 == 0 {
				p.hold()
			}
		}
		wantEnds(t, p.e, p.want)
	}
}

// However unlucky the picks, it goes on: always the first, the last, the one in
// the middle.
func TestEndsByAnyRule(t *testing.T) {
	rules := []func(many int) int{
		func(many int) int { return 0 },
		func(many int) int { return many - 1 },
		func(many int) int { return many / 2 },
	}
	random := rand.New(rand.NewSource(9))
	for range 60 {
		l, data := thrown(t, random, 100)
		for _, rule := range rules {
			e := made(t, l, data, 1+random.Intn(16))
			for number := 1; e.Enabled() > 0; number++ {
				for range 50 {
					e.Step(rule(e.Enabled()))
				}
				wantTriggered(t, e, number)
				for len(e.Done()) < number {
					if !e.Step(rule(e.Enabled())) {
						t.Fatalf("of %v, %v it does not go on", l, data)
					}
				}
			}
			wantEnds(t, e, all(t, l, data))
		}
	}
}

// greatJobs make as many steps as can be: a node hands on 2000 records, and a
// Union gets them four times, and hands on none, since its keys become too long.
func greatJobs(t *testing.T) map[string][][]api.Record {
	t.Helper()
	var keys []api.Record
	for i := range 222 {
		keys = append(keys, rec(long(38)+byGroup[i%16:i%16+1], i, i))
	}
	return map[string][][]api.Record{
		"source 8\ncopy 0 3\ncopy 1 3\nunion 2 2 2 2\nunion 2 2 2 2\nunion 2 2 2 2\nunion 2 2 2 2\nunion 2 2 2 2\nunion 2 2 2 2\nunion 2 2 2 2\nunion 2 2 2 2\nsink 3\n": {keys},
		"source 1\ncopy 0 3\ncopy 1 3\nfold 2 s+n\nfold 3 s+n\nfold 4 s+n\nfold 5 s+n\nfold 6 s+n\nfold 7 s+n\nfold 8 s+n\nfold 9 s+n\nsink 10\n":                        {keys},
		"source 1\nsink 0\n": {inTurn(300)},
		"source 2\nunion 0 0 0 0\nsink 1\nsink 1\nsink 1\nsink 1\nsink 1\nsink 1\nsink 1\nsink 1\nsink 1\nsink 1\n": {inTurn(300)},
	}
}

func TestEnabledEnds(t *testing.T) {
	for text, data := range greatJobs(t) {
		l := nodes(t, text)
		for _, workers := range []int{1, 2, 16} {
			e := made(t, l, data, workers)
			if many := stepsToEnd(e); many > 10_000*len(l) || many < 300 {
				t.Errorf("%d steps were done, of %d nodes", many, len(l))
			}
			if e.Enabled() != 0 {
				t.Errorf("Enabled is %d", e.Enabled())
			}
			wantEnds(t, e, all(t, l, data))
		}
	}
}
