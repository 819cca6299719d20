package frame_test

import (
	"bytes"
	"reflect"
	"slices"
	"strings"
	"testing"

	"weirgate/api"
	"weirgate/frame"
	"weirgate/plain"
)

func rec(key string, num, time int) api.Record { return api.Record{Key: key, Num: num, Time: time} }

// records are so many, each another one.
func records(many int) []api.Record {
	var l []api.Record
	for i := range many {
		l = append(l, rec(strings.Repeat("k", i%41), i*i-50, i*2500))
	}
	return l
}

// wantRecords holds what is written, and that it is read again.
func wantRecords(t *testing.T, l []api.Record, want ...byte) {
	t.Helper()
	b, err := frame.Records(l)
	if err != nil || !bytes.Equal(b, want) {
		t.Errorf("Records(%v) is %v, %v, want %v", l, b, err, want)
	}
	again, err := frame.ReadRecords(want)
	if err != nil || !slices.Equal(again, l) {
		t.Errorf("ReadRecords(%v) is %v, %v, want %v", want, again, err, l)
	}
}

func wantRecordsFault(t *testing.T, l []api.Record, want api.Errno) {
	t.Helper()
	if b, err := frame.Records(l); b != nil || plain.Told(err) != want {
		t.Errorf("Records(%v) is %v, %v, want nothing, %v", l, b, err, want)
	}
}

func wantNoRecords(t *testing.T, b []byte) {
	t.Helper()
	if l, err := frame.ReadRecords(b); l != nil || plain.Told(err) != api.ErrFile {
		t.Errorf("ReadRecords(%v) is %v, %v, want nothing, ErrFile", b, l, err)
	}
}

// written are records as F1 tells it, whether they may be or not.
func written(l ...api.Record) []byte {
	b := frame.Num(len(l))
	for _, r := range l {
		b = joined(b, frame.Text(r.Key), frame.Num(r.Num), frame.Num(r.Time))
	}
	return b
}

// F1, records

func TestRecords(t *testing.T) {
	wantRecords(t, nil, 0)
	wantRecords(t, []api.Record{}, 0)
	wantRecords(t, []api.Record{{}}, 2, 0, 0, 0)
	wantRecords(t, []api.Record{rec("a", 14, 6), rec("d", 5, 15)}, 4, 2, 97, 28, 12, 2, 100, 10, 30)
	wantRecords(t, []api.Record{rec("b", -1, 64)}, 2, 2, 98, 1, 128, 1)
	wantRecords(t, []api.Record{rec("\xff\x00", low, 0), rec("", high, api.MaxTime)},
		joined([]byte{4, 4, 255, 0}, frame.Num(low), []byte{0, 0}, frame.Num(high), frame.Num(1_000_000))...)
	// records need not rise, and may be there twice
	wantRecords(t, []api.Record{rec("b", 2, 2), rec("a", 1, 1), rec("b", 2, 2)}, 6, 2, 98, 4, 4, 2, 97, 2, 2, 2, 98, 4, 4)
}

func TestRecordsOfMany(t *testing.T) {
	for _, many := range []int{1, 2, 63, 64, api.MaxItems - 1, api.MaxItems} {
		l := records(many)
		wantRecords(t, l, written(l...)...)
	}
	wantRecordsFault(t, records(api.MaxItems+1), api.ErrFull)
	wantRecordsFault(t, make([]api.Record, 100_000), api.ErrFull)
}

func TestRecordsOfLongKeys(t *testing.T) {
	key := strings.Repeat("\xc3", api.MaxKey)
	wantRecords(t, []api.Record{rec(key, 1, 2)}, joined([]byte{2, 80}, []byte(key), []byte{2, 4})...)
	wantRecordsFault(t, []api.Record{rec(key+"k", 1, 2)}, api.ErrRange)
	wantRecordsFault(t, []api.Record{rec("a", 1, 2), rec(strings.Repeat("k", 1000), 1, 2), rec("c", 1, 2)}, api.ErrRange)
}

func TestRecordsOfTimes(t *testing.T) {
	for _, time := range []int{0, 1, api.MaxTime - 1, api.MaxTime} {
		wantRecords(t, []api.Record{rec("a", 1, time)}, written(rec("a", 1, time))...)
	}
	for _, time := range []int{-1, api.MaxTime + 1, low, high, -api.MaxTime, 1 << 32, 1 << 62} {
		wantRecordsFault(t, []api.Record{rec("a", 1, time)}, api.ErrRange)
		wantRecordsFault(t, []api.Record{rec("a", 1, 1), rec("b", 1, time)}, api.ErrRange)
	}
}

func TestRecordsFullAheadOfRange(t *testing.T) {
	l := records(api.MaxItems + 1)
	for _, wrong := range []api.Record{rec("a", 1, -1), rec(strings.Repeat("k", 41), 1, 1)} {
		l[0] = wrong
		wantRecordsFault(t, l, api.ErrFull)
		wantRecordsFault(t, l[:api.MaxItems], api.ErrRange)
	}
}

// Num may be any number: it has no bounds.
func TestRecordsOfNums(t *testing.T) {
	for _, num := range []int{0, 1, -1, 63, 64, -64, -65, low, high, low + 1, high - 1, api.MaxTime + 1} {
		wantRecords(t, []api.Record{rec("a", num, 3)}, written(rec("a", num, 3))...)
	}
}

// F1, what is no such bytes

func TestReadRecordsCutOffOrLonger(t *testing.T) {
	for _, l := range [][]api.Record{nil, {{}}, {rec("abc", 700, 9000), rec("", -700, 1), rec("d", low, 0)}, records(64)} {
		b := written(l...)
		for end := range b {
			wantNoRecords(t, b[:end])
		}
		for _, more := range []byte{0, 1, 2, 128, 255} {
			wantNoRecords(t, append(bytes.Clone(b), more))
		}
		wantNoRecords(t, joined(b, b))
	}
	wantNoRecords(t, nil)
	wantNoRecords(t, []byte{})
}

// What lies behind a list's length is not read.
func TestReadRecordsBehindTheLength(t *testing.T) {
	b := written(rec("abc", 1, 2))
	longer := append(bytes.Clone(b), 0, 0, 0)
	l, err := frame.ReadRecords(longer[:len(b)])
	if err != nil || !slices.Equal(l, []api.Record{rec("abc", 1, 2)}) {
		t.Errorf("ReadRecords is %v, %v", l, err)
	}
}

// ill are numbers that Num does not write: with more bytes than they need,
// that no int has, without an end.
func ill() [][]byte {
	return [][]byte{
		{128, 0}, {130, 0}, {129, 0}, {128, 128, 0}, {255, 0}, {254, 255, 0},
		{128, 128, 128, 128, 128, 128, 128, 128, 128, 0},
		{130, 128, 128, 128, 128, 128, 128, 128, 128, 0},
		{254, 255, 255, 255, 255, 255, 255, 255, 255, 2},
		{254, 255, 255, 255, 255, 255, 255, 255, 255, 3},
		{255, 255, 255, 255, 255, 255, 255, 255, 255, 127},
		{130, 128, 128, 128, 128, 128, 128, 128, 128, 2},
		{130, 128, 128, 128, 128, 128, 128, 128, 128, 64},
		{128, 128, 128, 128, 128, 128, 128, 128, 128, 128, 0},
		{130, 128, 128, 128, 128, 128, 128, 128, 128, 128, 0},
		{130, 128, 128, 128, 128, 128, 128, 128, 128, 128, 1},
		{254, 255, 255, 255, 255, 255, 255, 255, 255, 255, 1},
		{255, 255, 255, 255, 255, 255, 255, 255, 255, 129, 0},
		bytes.Repeat([]byte{128}, 40), bytes.Repeat([]byte{255}, 40),
	}
}

func TestReadRecordsOfIllNumbers(t *testing.T) {
	for _, num := range ill() {
		wantNoRecords(t, num)
		wantNoRecords(t, joined(num, []byte{2, 97, 2, 2}))
		wantNoRecords(t, joined([]byte{2}, num, []byte{97, 2, 2}))
		wantNoRecords(t, joined([]byte{2}, num, []byte{2, 2}))
		wantNoRecords(t, joined([]byte{2, 2, 97}, num, []byte{2}))
		wantNoRecords(t, joined([]byte{2, 2, 97, 2}, num))
	}
}

func TestReadRecordsOfIllCounts(t *testing.T) {
	for _, many := range []int{-1, -2, low, low + 1, high, 1 << 32, 1 << 60, 2, 3, api.MaxItems, api.MaxItems + 1} {
		wantNoRecords(t, frame.Num(many))
		wantNoRecords(t, joined(frame.Num(many), written(rec("a", 1, 1))[1:]))
	}
	wantNoRecords(t, written(records(api.MaxItems+1)...))
	wantNoRecords(t, joined(frame.Num(0), written(rec("a", 1, 1))[1:]))
}

func TestReadRecordsOfIllLengths(t *testing.T) {
	for _, many := range []int{-1, -2, -64, low, low + 1, high, high - 1, 1 << 32, 1 << 62, 5, 4} {
		wantNoRecords(t, joined([]byte{2}, frame.Num(many), []byte{97, 2, 2, 2}))
	}
	// one that reaches just to the end leaves no numbers
	wantNoRecords(t, []byte{2, 6, 97, 2, 2})
}

func TestReadRecordsThatNoneWould(t *testing.T) {
	for _, wrong := range []api.Record{rec("a", 1, -1), rec("a", 1, low), rec("a", 1, api.MaxTime+1), rec("a", 1, high), rec(strings.Repeat("k", 41), 1, 1)} {
		wantNoRecords(t, written(wrong))
		wantNoRecords(t, written(rec("a", 1, 1), wrong))
		wantNoRecords(t, written(wrong, rec("a", 1, 1)))
	}
}

// What is handed in is neither changed nor kept, what comes out is fresh.
func TestRecordsAreFresh(t *testing.T) {
	l := append(records(3), rec("behind", 7, -7))[:3]
	b, err := frame.Records(l)
	if want := append(records(3), rec("behind", 7, -7)); err != nil || !reflect.DeepEqual(l[:4], want) {
		t.Errorf("%v: the records became %v", err, l[:4])
	}
	before := bytes.Clone(b)
	first, err := frame.ReadRecords(b)
	if err != nil || !bytes.Equal(b, before) {
		t.Errorf("%v: the bytes became %v, were %v", err, b, before)
	}
	second, _ := frame.ReadRecords(b)
	fill(b)
	for i := range first[:cap(first)] {
		first[:cap(first)][i] = rec("filled", 1, 1)
	}
	if !slices.Equal(second, records(3)) {
		t.Errorf("the records became %v", second)
	}
	if again, _ := frame.Records(l); !bytes.Equal(again, before) {
		t.Errorf("Records is %v, was %v", again, before)
	}
}
