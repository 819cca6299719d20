package frame

import (
	"cmp"
	"strings"

	"weirgate/api"
)

func checkRecords(l []api.Record) error {
	if len(l) > api.MaxItems {
		return api.ErrFull
	}
	for _, r := range l {
		if len(r.Key) > api.MaxKey || r.Time < 0 || r.Time > api.MaxTime {
			return api.ErrRange
		}
	}
	return nil
}

func checkHelds(l []api.Held) error {
	if len(l) > api.MaxItems {
		return api.ErrFull
	}
	for i, h := range l {
		if !IsHeld(h) {
			return api.ErrRange
		}
		if i > 0 && Compare(l[i-1], h) >= 0 {
			return api.ErrOrder
		}
	}
	return nil
}

// IsHeld tells whether a state's Node and Key are such as may be.
func IsHeld(h api.Held) bool {
	return h.Node >= 0 && h.Node < api.MaxNodes && len(h.Key) <= api.MaxKey
}

// Compare tells which state stands ahead: by Node, then Key (bytes).
func Compare(a, b api.Held) int {
	return cmp.Or(cmp.Compare(a.Node, b.Node), strings.Compare(a.Key, b.Key))
}
