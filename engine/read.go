package engine

import (
	"weirgate/api"
	"weirgate/den"
	"weirgate/frame"
)

// reader takes what is kept from the bytes of a picture. What cannot be of the
// job spoils them.
type reader struct {
	*frame.Reader
	plan *plan
	most int // how many bytes there are
}

func (from *reader) read(k *kept) {
	from.Text() // the job: if it is another one, it is not written again
	k.number = from.upTo(mostCheckpoints)
	for own, splits := range from.plan.splits {
		for split, records := range splits {
			k.places[own][split] = from.upTo(len(records))
		}
	}
	for range from.upTo(from.most) {
		h := from.state()
		k.states[h.Node][h.Key] = h
	}
	for own, one := range from.plan.nodes {
		if one.Kind == api.Sink {
			from.lines(k.written[own])
		}
	}
}

// upTo takes a number from 0 to most. Of items, each of which takes a byte at
// least, there can be no more than there are bytes.
func (from *reader) upTo(most int) int {
	n := from.Num()
	if n < 0 || n > most {
		from.Spoil()
		return 0
	}
	return n
}

func (from *reader) state() api.Held {
	node := from.upTo(len(from.plan.nodes) - 1)
	if !den.HasState(from.plan.nodes[node].Kind) {
		from.Spoil()
	}
	key := from.key()
	a := from.Num()
	b := from.Num()
	return api.Held{Node: node, Key: key, A: a, B: b}
}

func (from *reader) key() string {
	key := from.Text()
	if len(key) > api.MaxKey {
		from.Spoil()
	}
	return key
}

// lines takes what a Sink wrote.
func (from *reader) lines(written map[string][]int) {
	for range from.upTo(from.most) {
		key := from.key()
		for range from.upTo(from.most) {
			written[key] = append(written[key], from.Num())
		}
	}
}
