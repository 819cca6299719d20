package crew

import (
	"maps"
	"slices"
	"sync"
	"sync/atomic"

	"weirgate/api"
	"weirgate/den"
	"weirgate/group"
)

// queue is how many parcels wait at a worker ahead of the next one's sender
// having to wait, so that they need not take turns at each of them.
const queue = 16

// post is where a node's workers are. Each has the keys of its groups, and
// their states, alone. Records of one key all come to a node from one worker,
// since what a Sub or a Union writes into a key still tells which key, of which
// input, it was: so they stay in their order, however the workers take turns.
type post struct {
	node    api.Node
	desks   []chan parcel  // by workers
	ways    []way          // to all that have the node in From
	working sync.WaitGroup // the workers
	got     atomic.Int64   // how many records came
	handed  atomic.Int64   // how many records were made, to be handed on
	writing sync.Mutex
	written map[string][]int // at a Sink: numbers, by keys
}

// way leads to a node that has the post's as the input-th of From.
type way struct {
	to    *post
	input int
}

// parcel is what was made of one record: records of one key, which come from
// the input-th of From. Several workers may get the same ones, and only read
// them.
type parcel struct {
	records []api.Record
	input   int
}

// newPosts are those of a right job's nodes, with nobody at work yet.
func newPosts(l []api.Node, workers int) []*post {
	var posts []*post
	for _, one := range l {
		p := &post{node: one, written: map[string][]int{}}
		for range workers {
			p.desks = append(p.desks, make(chan parcel, queue))
		}
		for input, from := range one.From {
			posts[from].ways = append(posts[from].ways, way{to: p, input: input})
		}
		posts = append(posts, p)
	}
	return posts
}

// begin lets the workers begin.
func (p *post) begin() {
	for _, desk := range p.desks {
		p.working.Go(func() { p.work(desk) })
	}
}

// end tells the workers that nothing comes any more, and waits till they have
// done all that came.
func (p *post) end() {
	for _, desk := range p.desks {
		close(desk)
	}
	p.working.Wait()
}

// send gives a parcel, which is not empty, to the worker that has its key.
func (p *post) send(one parcel) {
	worker, _ := group.Owner(len(p.desks), group.Of(one.records[0].Key))
	p.desks[worker] <- one
}

// work is what a worker does.
func (p *post) work(desk <-chan parcel) {
	states := map[string]api.Held{}
	for one := range desk {
		p.got.Add(int64(len(one.records)))
		for _, r := range one.records {
			state, has := states[r.Key]
			made, state, has := den.Apply(p.node, state, has, r, one.input)
			if has {
				states[r.Key] = state
			}
			p.handOn(made)
		}
	}
}

// handOn gives what was made of a record to all that are to have it. Where a
// node makes too many the job is refused, and the rest is of no use: so it goes
// no further, since it might become more and more from node to node.
func (p *post) handOn(made []api.Record) {
	if len(made) == 0 || p.handed.Add(int64(len(made))) > api.MaxFlow {
		return
	}
	if p.node.Kind == api.Sink {
		p.write(made)
	}
	for _, w := range p.ways {
		w.to.send(parcel{records: made, input: w.input})
	}
}

func (p *post) write(l []api.Record) {
	p.writing.Lock()
	defer p.writing.Unlock()
	for _, r := range l {
		p.written[r.Key] = append(p.written[r.Key], r.Num)
	}
}

// lines are what a Sink got, by keys, when all is done.
func (p *post) lines() []api.Line {
	var all []api.Line
	for _, key := range slices.Sorted(maps.Keys(p.written)) {
		all = append(all, api.Line{Key: key, Nums: p.written[key]})
	}
	return all
}
