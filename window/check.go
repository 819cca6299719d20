package window

import (
	"weirgate/api"
	"weirgate/den"
)

// checkRecords tells what is wrong with the records of all lists together.
func checkRecords(lists ...[]api.Record) error {
	many := 0
	for _, l := range lists {
		many += len(l)
	}
	if many > api.MaxItems {
		return api.ErrFull
	}
	for _, l := range lists {
		for _, r := range l {
			if !den.IsRecord(r) {
				return api.ErrRange
			}
		}
	}
	return nil
}

// isSpan tells whether a size, a by or a gap is such as may be.
func isSpan(long int) bool { return long >= 1 && long <= api.MaxTime }

func isSlack(slack int) bool { return slack >= 0 && slack <= api.MaxTime }
