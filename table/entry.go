package table

import (
	"strings"

	"weirgate/api"
	"weirgate/frame"
)

// check tells what is wrong with the entries of a table.
func check(l []api.Entry) error {
	if len(l) > api.MaxItems {
		return api.ErrFull
	}
	for i, e := range l {
		if len(e.Key) > api.MaxText || len(e.Value) > api.MaxText {
			return api.ErrRange
		}
		if e.Dead && e.Value != "" {
			return api.ErrShape
		}
		if i > 0 && l[i-1].Key >= e.Key {
			return api.ErrOrder
		}
	}
	return nil
}

// withEntry is b with an entry behind.
func withEntry(b []byte, e api.Entry) []byte {
	dead := 0
	if e.Dead {
		dead = 1
	}
	b = append(b, frame.Text(e.Key)...)
	b = append(b, frame.Num(dead)...)
	return append(b, frame.Text(e.Value)...)
}

// entry takes what withEntry wrote.
func entry(from *frame.Reader) api.Entry {
	key := from.Text()
	dead := from.Num()
	value := from.Text()
	if dead != 0 && dead != 1 {
		from.Spoil()
	}
	return api.Entry{Key: key, Value: value, Dead: dead == 1}
}

func againstKey(e api.Entry, key string) int {
	return strings.Compare(e.Key, key)
}

// addNew puts entries to those that are there already, and hide others of
// their keys.
func addNew(all map[string]api.Entry, entries []api.Entry) {
	for _, e := range entries {
		if _, has := all[e.Key]; !has {
			all[e.Key] = e
		}
	}
}
