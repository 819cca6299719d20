package window_test

import (
	"testing"

	"weirgate/api"
)

// W1 and W2, what is wrong

// allTell holds all four calls that are right but for their records.
func allTell(t *testing.T, l []api.Record, want api.Errno) {
	t.Helper()
	slideTells(t, l, 6, 3, 1, want)
	tumbleTells(t, l, 6, 1, want)
	sessionTells(t, l, 6, want)
	marksTell(t, [][]api.Record{l}, 1, want)
	marksTell(t, [][]api.Record{nil, nil, nil, l}, 1, want)
	marksTell(t, [][]api.Record{l[:len(l)/2], l[len(l)/2:]}, 1, want)
}

// allTellWrong holds all calls with arguments of which some are wrong, too.
func allTellWrong(t *testing.T, l []api.Record, want api.Errno) {
	t.Helper()
	for _, wrong := range noSpans() {
		slideTells(t, l, wrong, 3, 1, want)
		slideTells(t, l, wrong, most, 1, want) // so that one more than MaxTime is wrong by itself
		slideTells(t, l, 6, wrong, 1, want)
		slideTells(t, l, wrong, wrong, wrong, want)
		tumbleTells(t, l, wrong, 1, want)
		tumbleTells(t, l, wrong, wrong, want)
		sessionTells(t, l, wrong, want)
	}
	for _, wrong := range noSlacks() {
		slideTells(t, l, 6, 3, wrong, want)
		tumbleTells(t, l, 6, wrong, want)
		marksTell(t, [][]api.Record{l}, wrong, want)
		marksTell(t, [][]api.Record{nil, l, nil, nil}, wrong, want)
	}
	slideTells(t, l, 17, 1, 1, want)
	slideTells(t, l, 17, 1, -1, want)
}

func TestMostRecords(t *testing.T) {
	allTell(t, times(api.MaxItems), api.OK)
	allTell(t, times(api.MaxItems-1), api.OK)
	allTell(t, times(api.MaxItems+1), api.ErrFull)
	allTell(t, times(3*api.MaxItems), api.ErrFull)
	allTellWrong(t, times(api.MaxItems), api.ErrRange)
	allTellWrong(t, times(api.MaxItems+1), api.ErrFull)
}

// One more than may be is told ahead of one that is none, wherever it stands.
func TestWrongRecords(t *testing.T) {
	for _, r := range noRecords() {
		full := times(api.MaxItems)
		for _, place := range []int{0, 1, 200, api.MaxItems - 1} {
			l := append([]api.Record{}, full...)
			l[place] = r
			allTell(t, l, api.ErrRange)
			allTellWrong(t, l, api.ErrRange)
			allTell(t, append(l, rec("a", 1, 0)), api.ErrFull)
			allTellWrong(t, append(l, rec("a", 1, 0)), api.ErrFull)
		}
		allTell(t, []api.Record{r}, api.ErrRange)
		allTell(t, append(full, r), api.ErrFull)
		allTellWrong(t, append(full, r), api.ErrFull)
		// One that would lie in no pane is refused as well.
		slideTells(t, []api.Record{r}, 1, most, 0, api.ErrRange)
	}
}

func TestRightRecords(t *testing.T) {
	for _, r := range []api.Record{rec("", 0, 0), rec(long(api.MaxKey), 0, 0), rec("a", 0, most), rec("a", least, 0), rec("a", greatest, most)} {
		allTell(t, []api.Record{r}, api.OK)
		allTell(t, []api.Record{r, r, r}, api.OK)
		allTellWrong(t, []api.Record{r}, api.ErrRange)
	}
	allTell(t, nil, api.OK)
	allTellWrong(t, nil, api.ErrRange)
}

func TestRightSpansAndSlacks(t *testing.T) {
	for _, l := range [][]api.Record{nil, at(0), at(most, 0, 5)} {
		for _, span := range []int{1, 2, 1000, most - 1, most} {
			for _, slack := range []int{0, 1, 1000, most - 1, most} {
				slideTells(t, l, span, span, slack, api.OK)
				slideTells(t, l, span, most, slack, api.OK)
				slideTells(t, l, 1, span, slack, api.OK)
				tumbleTells(t, l, span, slack, api.OK)
				marksTell(t, [][]api.Record{l, l}, slack, api.OK)
			}
			sessionTells(t, l, span, api.OK)
		}
	}
}

func TestSizeOf16TimesBy(t *testing.T) {
	for _, l := range [][]api.Record{nil, at(0), at(most, 0, 5)} {
		for _, by := range []int{1, 2, 3, 1000, most/16 - 1, most / 16} {
			slideTells(t, l, 16*by-1, by, 0, api.OK)
			slideTells(t, l, 16*by, by, 0, api.OK)
			slideTells(t, l, 16*by+1, by, 0, api.ErrRange)
			slideTells(t, l, 16*by+by, by, 0, api.ErrRange)
		}
		slideTells(t, l, most, 1, 0, api.ErrRange)
		slideTells(t, l, most, most/16+1, 0, api.OK)
		// 16 times these are 0, or little, if they are counted modulo 2^64.
		slideTells(t, l, 1, 1<<60, 0, api.ErrRange)
		slideTells(t, l, 1, 1<<60+1, 0, api.ErrRange)
		slideTells(t, l, 1, -1<<60+1, 0, api.ErrRange)
	}
}

func TestMostInputs(t *testing.T) {
	full, wrong := times(api.MaxItems), at(-1)
	for _, slack := range append(noSlacks(), 0, most) {
		marksTell(t, make([][]api.Record, api.MaxIn+1), slack, api.ErrFull)
		marksTell(t, make([][]api.Record, 1000), slack, api.ErrFull)
		marksTell(t, [][]api.Record{at(1), at(2), at(3), at(4), at(5)}, slack, api.ErrFull)
		marksTell(t, [][]api.Record{wrong, nil, nil, nil, nil}, slack, api.ErrFull)
		marksTell(t, [][]api.Record{nil, nil, nil, nil, wrong}, slack, api.ErrFull)
		marksTell(t, [][]api.Record{full, full, full, full, full}, slack, api.ErrFull)
	}
	marksTell(t, make([][]api.Record, api.MaxIn), 0, api.OK)
	marksTell(t, [][]api.Record{at(1), at(2), at(3), at(4)}, 0, api.OK)
}

// MaxItems are of all inputs together.
func TestMostRecordsInAll(t *testing.T) {
	quarter, wrong := times(api.MaxItems/4), at(most+1)
	marksTell(t, [][]api.Record{quarter, quarter, quarter, quarter}, 0, api.OK)
	marksTell(t, [][]api.Record{quarter, quarter, quarter, times(api.MaxItems/4 + 1)}, 0, api.ErrFull)
	marksTell(t, [][]api.Record{times(api.MaxItems/4 + 1), quarter, quarter, quarter}, 0, api.ErrFull)
	marksTell(t, [][]api.Record{times(api.MaxItems), at(1)}, 0, api.ErrFull)
	marksTell(t, [][]api.Record{wrong, times(api.MaxItems)}, 0, api.ErrFull)
	marksTell(t, [][]api.Record{times(api.MaxItems), wrong}, -1, api.ErrFull)
	marksTell(t, [][]api.Record{wrong, times(api.MaxItems - 1)}, 0, api.ErrRange)
	marksTell(t, [][]api.Record{times(api.MaxItems - 1), wrong}, -1, api.ErrRange)
}
