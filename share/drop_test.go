package share_test

import (
	"testing"

	"weirgate/api"
	"weirgate/share"
)

// S1, Drop and Keep

func TestDropOfNone(t *testing.T) {
	s := share.New()
	for _, picture := range []int{least, -1, 0, 1, greatest} {
		wantTold(t, s.Drop(picture), api.ErrNone)
	}
	wantShared(t, s, nil)
	s = filled(t, some())
	for _, picture := range []int{least, -1, -3, 1, 2, 4, 13, greatest - 1} {
		wantTold(t, s.Drop(picture), api.ErrNone)
	}
	wantShared(t, s, some())
}

// What is dropped takes away what is its own alone.
func TestDrop(t *testing.T) {
	for picture := range some() {
		s, have := filled(t, some()), some()
		drop(t, s, picture)
		delete(have, picture)
		wantShared(t, s, have)
		wantTold(t, s.Drop(picture), api.ErrNone)
		wantShared(t, s, have)
	}
	s := filled(t, some())
	drop(t, s, 0)
	wantCount(t, s, "a", 0)
	wantCount(t, s, "b", 2)
	wantCount(t, s, "c-1", 2)
	drop(t, s, greatest)
	wantCount(t, s, "0", 0)
	wantCount(t, s, "b", 1)
}

func TestDropOfAll(t *testing.T) {
	s := filled(t, some())
	for picture := range some() {
		drop(t, s, picture)
	}
	wantShared(t, s, nil)
	for _, own := range some() {
		for _, file := range own {
			wantCount(t, s, file, 0)
		}
	}
}

func TestDropAndTakeAgain(t *testing.T) {
	s := filled(t, some())
	drop(t, s, 3)
	take(t, s, 3, "z", "new")
	have := some()
	have[3] = files("new", "z")
	wantShared(t, s, have)
	wantCount(t, s, "c-1", 2)
	wantTold(t, s.Take(3, nil), api.ErrClash)
	drop(t, s, 3)
	wantTold(t, s.Drop(3), api.ErrNone)
	delete(have, 3)
	wantShared(t, s, have)
	wantCount(t, s, "new", 0)
	for range 1000 {
		take(t, s, 3, "b", "new", "b")
		drop(t, s, 3)
	}
	wantShared(t, s, have)
}

// behindKeep are some's numbers that are dropped, and what stays.
func behindKeep(stay int) ([]int, shared) {
	order, have := []int{0, 3, 7, 12, greatest}, some()
	gone := order[:len(order)-stay]
	for _, picture := range gone {
		delete(have, picture)
	}
	return gone, have
}

func TestKeep(t *testing.T) {
	for many := range 6 {
		s := filled(t, some())
		gone, have := behindKeep(many)
		wantKept(t, s, many, gone...)
		wantShared(t, s, have)
		for _, picture := range gone {
			wantTold(t, s.Drop(picture), api.ErrNone)
		}
		wantKept(t, s, many)
		wantShared(t, s, have)
	}
}

func TestKeepCounts(t *testing.T) {
	s := filled(t, some())
	wantKept(t, s, 2, 0, 3, 7)
	for file, many := range map[string]int{"a": 0, "b": 1, "c-1": 1, "z": 1, "0": 1} {
		wantCount(t, s, file, many)
	}
	wantKept(t, s, 1, 12)
	for file, many := range map[string]int{"a": 0, "b": 1, "c-1": 0, "z": 0, "0": 1} {
		wantCount(t, s, file, many)
	}
}

func TestKeepOfBelowNone(t *testing.T) {
	for _, many := range []int{0, -1, -2, -5, -1 << 32, least + 1, least} {
		s := filled(t, some())
		gone, _ := behindKeep(0)
		wantKept(t, s, many, gone...)
		wantShared(t, s, nil)
	}
}

func TestKeepOfMoreThanAll(t *testing.T) {
	for _, many := range []int{5, 6, 400, 1 << 32, greatest - 1, greatest} {
		s := filled(t, some())
		wantKept(t, s, many)
		wantShared(t, s, some())
	}
}

func TestKeepOfNothing(t *testing.T) {
	for _, many := range []int{least, -1, 0, 1, greatest} {
		s := share.New()
		wantKept(t, s, many)
		wantShared(t, s, nil)
		take(t, s, 0, "a")
		wantShared(t, s, shared{0: files("a")})
	}
}

// Which stay hangs on their numbers, not on when they were taken.
func TestKeepTheGreatest(t *testing.T) {
	for _, order := range [][]int{{1, 2, 3, 4}, {4, 3, 2, 1}, {3, 1, 4, 2}, {10, 9, 2, 100}} {
		s := share.New()
		for _, picture := range order {
			take(t, s, picture, "a", names(picture, 1)[0])
		}
		all := s.Pictures()
		wantKept(t, s, 2, all[:2]...)
		wantShared(t, s, shared{all[2]: files("a", names(all[2], 1)[0]), all[3]: files("a", names(all[3], 1)[0])})
	}
}

// There is room again, for those that were dropped too.
func TestTakeBehindKeep(t *testing.T) {
	s := share.New()
	for i := range 400 {
		take(t, s, i, "a")
	}
	wantKept(t, s, 399, 0)
	take(t, s, 0, "b")
	wantTold(t, s.Take(400, nil), api.ErrFull)
	if gone := s.Keep(-1); len(gone) != 400 || gone[0] != 0 || gone[399] != 399 {
		t.Errorf("dropped are %v", gone)
	}
	for i := range 400 {
		take(t, s, i, "c")
	}
	wantCount(t, s, "a", 0)
	wantCount(t, s, "b", 0)
	wantCount(t, s, "c", 400)
}
