package share_test

import (
	"maps"
	"slices"
	"strconv"
	"strings"
	"testing"

	"weirgate/api"
	"weirgate/plain"
	"weirgate/share"
)

const (
	least    = -1 << 63
	greatest = 1<<63 - 1
)

// shared are what pictures a Share should have, each with its files.
type shared map[int][]string

func files(l ...string) []string { return l }

// names are so many of them, from that of a number on, by bytes.
func names(from, many int) []string {
	var l []string
	for i := from; i < from+many; i++ {
		l = append(l, "f-"+strconv.Itoa(10_000+i))
	}
	return l
}

// noNames are none, each by one fault.
func noNames() []string {
	all := files("", strings.Repeat("a", 21), strings.Repeat("-", 276), "ä", "日", "a b", "a\n", "a.b", "a_b")
	for c := range 256 {
		if 'a' <= c && c <= 'z' || '0' <= c && c <= '9' || c == '-' {
			continue
		}
		one := string([]byte{byte(c)})
		all = append(all, one, one+"b", "a"+one, "a"+one+"b", strings.Repeat("a", 19)+one)
	}
	return all
}

// wantTold holds what a call answered.
func wantTold(t *testing.T, err error, want api.Errno) {
	t.Helper()
	if told := plain.Told(err); told != want || (err == nil) != (want == api.OK) {
		t.Errorf("the answer is %v, want %v", err, want)
	}
}

// take and drop do what must go well.
func take(t *testing.T, s *share.Share, picture int, l ...string) {
	t.Helper()
	wantTold(t, s.Take(picture, l), api.OK)
}

func drop(t *testing.T, s *share.Share, picture int) {
	t.Helper()
	wantTold(t, s.Drop(picture), api.OK)
}

func wantCount(t *testing.T, s *share.Share, file string, want int) {
	t.Helper()
	if got := s.Count(file); got != want {
		t.Errorf("Count(%q) is %d, want %d", file, got, want)
	}
}

// wantShared holds all that a Share says of its pictures and their files.
func wantShared(t *testing.T, s *share.Share, want shared) {
	t.Helper()
	if got := s.Pictures(); !slices.Equal(got, slices.Sorted(maps.Keys(want))) {
		t.Errorf("the pictures are %v, want those of %v", got, want)
	}
	counts := map[string]int{}
	for _, l := range want {
		own := slices.Clone(l)
		slices.Sort(own)
		for _, file := range slices.Compact(own) {
			counts[file]++
		}
	}
	if got := s.Live(); !slices.Equal(got, slices.Sorted(maps.Keys(counts))) {
		t.Errorf("live are %q, want those of %v", got, counts)
	}
	for file, many := range counts {
		wantCount(t, s, file, many)
	}
}

func wantKept(t *testing.T, s *share.Share, many int, want ...int) {
	t.Helper()
	if got := s.Keep(many); !slices.Equal(got, want) {
		t.Errorf("Keep(%d) is %v, want %v", many, got, want)
	}
}

// filled has these pictures.
func filled(t *testing.T, have shared) *share.Share {
	t.Helper()
	s := share.New()
	for picture, l := range have {
		take(t, s, picture, l...)
	}
	wantShared(t, s, have)
	return s
}

// some are pictures that have files in common.
func some() shared {
	return shared{
		0:        files("a", "b", "c-1"),
		3:        files("b", "c-1"),
		7:        nil,
		12:       files("c-1", "z"),
		greatest: files("b", "0"),
	}
}
