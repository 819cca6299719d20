package sink_test

import (
	"slices"
	"testing"

	"weirgate/api"
	"weirgate/plain"
	"weirgate/sink"
)

const (
	least    = -1 << 63
	greatest = 1<<63 - 1
)

func record(num int) api.Record { return api.Record{Key: "k", Num: num, Time: -num} }

// records have these numbers.
func records(nums ...int) []api.Record {
	var l []api.Record
	for _, num := range nums {
		l = append(l, record(num))
	}
	return l
}

// span has the numbers from low on, below high.
func span(low, high int) []int {
	var l []int
	for num := low; num < high; num++ {
		l = append(l, num)
	}
	return l
}

// noIds are such as no transaction may have.
func noIds() []int { return []int{0, -1, -2, -400, -1 << 32, -greatest, least + 1, least} }

// wantTold holds what a call answered.
func wantTold(t *testing.T, err error, want api.Errno) {
	t.Helper()
	if told := plain.Told(err); told != want || (err == nil) != (want == api.OK) {
		t.Errorf("the answer is %v, want %v", err, want)
	}
}

// add puts records of these numbers in, which must go well.
func add(t *testing.T, s *sink.Sink, nums ...int) {
	t.Helper()
	for _, num := range nums {
		wantTold(t, s.Add(record(num)), api.OK)
	}
}

// seal puts records of these numbers in, and seals them, which must go well.
func seal(t *testing.T, s *sink.Sink, id int, nums ...int) {
	t.Helper()
	add(t, s, nums...)
	wantTold(t, s.Seal(id), api.OK)
}

// commit commits, which must write so many.
func commit(t *testing.T, s *sink.Sink, id, want int) {
	t.Helper()
	if many, err := s.Commit(id); many != want || err != nil {
		t.Errorf("Commit(%d) is %d, %v, want %d", id, many, err, want)
	}
}

// noCommit holds that an id cannot be committed.
func noCommit(t *testing.T, s *sink.Sink, id int) {
	t.Helper()
	many, err := s.Commit(id)
	wantTold(t, err, api.ErrRange)
	if many != 0 {
		t.Errorf("Commit(%d) is %d, want 0", id, many)
	}
}

// abort gives up so many.
func abort(t *testing.T, s *sink.Sink, want int) {
	t.Helper()
	if many := s.Abort(); many != want {
		t.Errorf("Abort is %d, want %d", many, want)
	}
}

// wantWritten holds the numbers of what is written.
func wantWritten(t *testing.T, s *sink.Sink, nums ...int) {
	t.Helper()
	if got := s.Written(); !slices.Equal(got, records(nums...)) {
		t.Errorf("written is %v, want %v", got, nums)
	}
}

func wantSealed(t *testing.T, s *sink.Sink, ids ...int) {
	t.Helper()
	if got := s.Sealed(); !slices.Equal(got, ids) {
		t.Errorf("%v wait, want %v", got, ids)
	}
}

// some has written 1 and 2, with the ids 2 and 3; 3, 4 and 5 wait with 5, none
// with 6, 6 with 9; 7 and 8 are open.
func some(t *testing.T) *sink.Sink {
	t.Helper()
	s := sink.New()
	seal(t, s, 2, 1)
	seal(t, s, 3, 2)
	commit(t, s, 3, 2)
	seal(t, s, 5, 3, 4, 5)
	seal(t, s, 6)
	seal(t, s, 9, 6)
	add(t, s, 7, 8)
	wantWritten(t, s, 1, 2)
	wantSealed(t, s, 5, 6, 9)
	return s
}

// wantSome holds that all is as some made it; then it is over with it.
func wantSome(t *testing.T, s *sink.Sink) {
	t.Helper()
	wantWritten(t, s, 1, 2)
	wantSealed(t, s, 5, 6, 9)
	wantTold(t, s.Seal(9), api.ErrOrder)
	seal(t, s, 10)
	wantSealed(t, s, 5, 6, 9, 10)
	commit(t, s, 5, 3)
	wantWritten(t, s, 1, 2, 3, 4, 5)
	commit(t, s, 6, 0)
	commit(t, s, 9, 1)
	wantWritten(t, s, 1, 2, 3, 4, 5, 6)
	commit(t, s, 10, 2)
	wantWritten(t, s, 1, 2, 3, 4, 5, 6, 7, 8)
	wantSealed(t, s)
	abort(t, s, 0)
}
