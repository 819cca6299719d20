package window

import (
	"cmp"
	"maps"
	"slices"
	"strings"

	"weirgate/api"
)

// place is where a pane lies.
type place struct {
	key  string
	from int
}

// panes are those that a record lies in.
type panes map[place]api.Pane

// take counts a record in each pane that it lies in, as the mark stands when it
// comes. From the last of them backward there are at most mostPanes.
func (p panes) take(r api.Record, size, by, mark int) {
	for from := r.Time / by * by; from >= 0 && r.Time < from+size; from -= by {
		at := place{key: r.Key, from: from}
		pane := p[at]
		pane.Key, pane.From, pane.To = r.Key, from, from+size
		if mark >= pane.To {
			pane.Late++
		} else {
			count(&pane, r)
		}
		p[at] = pane
	}
}

// sorted are they by Key, From.
func (p panes) sorted() []api.Pane {
	return slices.SortedFunc(maps.Values(p), func(a, b api.Pane) int {
		return cmp.Or(strings.Compare(a.Key, b.Key), cmp.Compare(a.From, b.From))
	})
}

// count counts a record for which a pane is not closed.
func count(pane *api.Pane, r api.Record) {
	pane.Many++
	pane.Sum += r.Num
}

// byKeyAndTime are records in another order, the list stays.
func byKeyAndTime(l []api.Record) []api.Record {
	return slices.SortedFunc(slices.Values(l), func(a, b api.Record) int {
		return cmp.Or(strings.Compare(a.Key, b.Key), cmp.Compare(a.Time, b.Time))
	})
}
