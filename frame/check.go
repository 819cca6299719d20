package frame

import (
	"cmp"
	"strings"

	"weirgate/api"
)

func checkRecords(l []api.Record) error {
	if len(l) > api.MaxItems {
		return api.ErrFull
	}
	for _, r := range l {
		if len(r.Key) > api.MaxKey || r.Time < 0 || r.Time > api.MaxTime {
			return api.ErrRange
		}
	}
	return nil
}

func checkHelds(l []api.Held) error {
	if len(l) > api.MaxItems {
		return api.ErrFull
	}
	for i, h := range l {
		if h.Node < 0 || h.Node >= api.MaxNodes || len(h.Key) > api.MaxKey {
			return api.ErrRange
		}
		if i > 0 && compare(l[i-1], h) >= 0 {
			return api.ErrOrder
		}
	}
	return nil
}

// compare tells which state stands ahead: by Node, then Key (bytes).
func compare(a, b api.Held) int {
	return cmp.Or(cmp.Compare(a.Node, b.Node), strings.Compare(a.Key, b.Key))
}
