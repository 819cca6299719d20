package share_test

import (
	"slices"
	"strings"
	"testing"

	"weirgate/api"
	"weirgate/share"
)

// S1, Count, Live and Pictures

func TestCount(t *testing.T) {
	s := filled(t, some())
	for file, many := range map[string]int{"a": 1, "z": 1, "0": 1, "b": 3, "c-1": 3, "c": 0, "c-": 0, "c-10": 0, "1": 0} {
		wantCount(t, s, file, many)
	}
	for i := range 300 {
		take(t, s, 1000+i, "b", "new")
		wantCount(t, s, "b", 4+i)
		wantCount(t, s, "new", 1+i)
	}
	for i := range 300 {
		drop(t, s, 1000+i)
		wantCount(t, s, "b", 302-i)
		wantCount(t, s, "new", 299-i)
	}
	wantShared(t, s, some())
}

func TestCountOfNoName(t *testing.T) {
	s := filled(t, some())
	wantTold(t, s.Take(1, files("a", "A")), api.ErrSyntax)
	for _, none := range noNames() {
		wantCount(t, s, none, 0)
	}
	wantCount(t, s, strings.Repeat("a", 1_000_000), 0)
	// asking makes no file live
	wantShared(t, s, some())
}

func TestLiveByBytes(t *testing.T) {
	s := share.New()
	take(t, s, 2, "b", "a", "-", "ab", "a-")
	take(t, s, 1, "9", "10", "b", "1", "z", "aa")
	take(t, s, 3, "a0", "--", "z", "z")
	if got := strings.Join(s.Live(), " "); got != "- -- 1 10 9 a a- a0 aa ab b z" {
		t.Errorf("live are %s", got)
	}
	drop(t, s, 2)
	if got := strings.Join(s.Live(), " "); got != "-- 1 10 9 a0 aa b z" {
		t.Errorf("live are %s", got)
	}
}

func TestPicturesRise(t *testing.T) {
	s := share.New()
	for _, picture := range []int{10, 9, greatest, 2, 100, 0, 1 << 32, 11} {
		take(t, s, picture)
	}
	if got := s.Pictures(); !slices.Equal(got, []int{0, 2, 9, 10, 11, 100, 1 << 32, greatest}) {
		t.Errorf("the pictures are %v", got)
	}
}

// What is given out can be changed, with what room there is behind it.
func TestGivenOutIsTheCallers(t *testing.T) {
	s := filled(t, some())
	for range 2 {
		live, pictures := s.Live(), s.Pictures()
		for i := range live[:cap(live)] {
			live[:cap(live)][i] = "spoilt"
		}
		for i := range pictures[:cap(pictures)] {
			pictures[:cap(pictures)][i] = 5
		}
		wantShared(t, s, some())
	}
	gone := s.Keep(3)
	_, have := behindKeep(3)
	for i := range gone[:cap(gone)] {
		gone[:cap(gone)][i] = 5
	}
	wantShared(t, s, have)
	wantKept(t, s, 1, 7, 12)
}

// Two Shares have nothing in common.
func TestSharesAreApart(t *testing.T) {
	one, two := share.New(), share.New()
	own := files("a", "b")
	take(t, one, 1, own...)
	take(t, two, 1, own...)
	take(t, two, 2, "b")
	drop(t, one, 1)
	wantShared(t, one, nil)
	wantShared(t, two, shared{1: files("a", "b"), 2: files("b")})
}
