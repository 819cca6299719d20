package lsm

import (
	"iter"
	"slices"
	"strings"

	"weirgate/api"
)

// add takes a table that is newer than all so far.
func (s *Store) add(entries []api.Entry, b []byte) {
	for _, e := range entries {
		s.last[e.Key] = e
	}
	s.tables = append(s.tables, b)
}

// set makes an entry the last one of its key.
func (s *Store) set(e api.Entry) error {
	if len(e.Key) > api.MaxText || len(e.Value) > api.MaxText {
		return api.ErrRange
	}
	if _, has := s.last[e.Key]; !has && len(s.last) >= api.MaxItems {
		return api.ErrFull
	}
	e.Key, e.Value = strings.Clone(e.Key), strings.Clone(e.Value)
	s.last[e.Key] = e
	s.fresh[e.Key] = struct{}{}
	if len(s.fresh) < s.limit {
		return nil
	}
	return s.Flush()
}

// entries are the last ones of keys, where they fit, by their keys.
func (s *Store) entries(keys iter.Seq[string], fits func(e api.Entry) bool) []api.Entry {
	var l []api.Entry
	for _, key := range slices.Sorted(keys) {
		if e := s.last[key]; fits(e) {
			l = append(l, e)
		}
	}
	return l
}
