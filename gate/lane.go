package gate

import (
	"slices"

	"weirgate/api"
)

// lane is an input: what waits there, in order.
type lane struct {
	items []item
	// last is the id of the last barrier that came, which may have gone since;
	// 0, which is below all ids, if none came.
	last int
}

// item is a barrier if it has an id, and a record if it has none (0).
type item struct {
	record api.Record
	id     int
}

func (l *lane) isFull() bool { return len(l.items) >= api.MaxItems }

// add lets an item wait behind all.
func (l *lane) add(one item) { l.items = append(l.items, one) }

// take takes the first, which must be there.
func (l *lane) take() item {
	first := l.items[0]
	// Delete clears the place behind the end, so that nothing of what went
	// stays with the lane.
	l.items = slices.Delete(l.items, 0, 1)
	return first
}

// barrier is the id of the first, if that is a barrier; else 0.
func (l *lane) barrier() int {
	if len(l.items) == 0 {
		return 0
	}
	return l.items[0].id
}

func (l *lane) isBlocked() bool { return l.barrier() > 0 }

// isOpen tells that a record is the first.
func (l *lane) isOpen() bool { return len(l.items) > 0 && !l.isBlocked() }
