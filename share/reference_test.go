package share_test

import (
	"cmp"
	"math/rand"
	"regexp"
	"slices"
	"testing"

	"weirgate/api"
	"weirgate/plain"
	"weirgate/share"
)

// A second way to the same answers: a list of who has which file, a line each
// time, and a line without a file for each picture; all else is looked for.

type line struct {
	picture int
	file    string // empty: the picture is there
}

type second []line

var nameForm = regexp.MustCompile(`^[a-z0-9-]{1,20}$`)

func (s second) pictures() []int {
	var l []int
	for _, one := range s {
		if one.file == "" {
			l = append(l, one.picture)
		}
	}
	slices.Sort(l)
	return l
}

func (s *second) take(picture int, files []string) api.Errno {
	own := slices.Clone(files)
	slices.Sort(own)
	own = slices.Compact(own)
	switch there := s.pictures(); {
	case picture < 0:
		return api.ErrRange
	case slices.Contains(there, picture):
		return api.ErrClash
	case len(there) == 400 || len(own) > 400:
		return api.ErrFull
	}
	next := append(slices.Clone(*s), line{picture, ""})
	for _, file := range own {
		if !nameForm.MatchString(file) {
			return api.ErrSyntax
		}
		next = append(next, line{picture, file})
	}
	*s = next
	return api.OK
}

func (s *second) drop(picture int) api.Errno {
	had := len(*s)
	*s = slices.DeleteFunc(*s, func(one line) bool { return one.picture == picture })
	if len(*s) == had {
		return api.ErrNone
	}
	return api.OK
}

func (s *second) keep(many int) []int {
	var gone []int
	for there := s.pictures(); len(there) > max(many, 0); there = there[1:] {
		s.drop(there[0])
		gone = append(gone, there[0])
	}
	return gone
}

func (s second) shared() shared {
	all := shared{}
	for _, one := range s {
		if one.file == "" {
			all[one.picture] = all[one.picture]
		} else {
			all[one.picture] = append(all[one.picture], one.file)
		}
	}
	return all
}

func thrownFiles(random *rand.Rand) []string {
	var l []string
	for range random.Intn(8) {
		l = append(l, []string{"a", "b", "c-1", "0", "zz", "zzz"}[random.Intn(6)])
	}
	if random.Intn(10) == 0 {
		l = slices.Insert(l, random.Intn(len(l)+1), []string{"", "A", "a b", "aaaaaaaaaaaaaaaaaaaaa", "a\n"}[random.Intn(5)])
	}
	if random.Intn(20) == 0 {
		l = append(l, names(0, 392+random.Intn(12))...)
	}
	random.Shuffle(len(l), func(i, j int) { l[i], l[j] = l[j], l[i] })
	return l
}

// thrownStep does one thing to both, and tells what each of them answered.
func thrownStep(random *rand.Rand, s *share.Share, want *second, most int) (got, told api.Errno) {
	picture := random.Intn(most) - 1
	switch random.Intn(20) {
	default:
		files := thrownFiles(random)
		return plain.Told(s.Take(picture, files)), want.take(picture, files)
	case 0, 1, 2, 3, 4:
		return plain.Told(s.Drop(picture)), want.drop(picture)
	case 5:
		many := picture - random.Intn(3)
		if got, kept := s.Keep(many), want.keep(many); slices.Compare(got, kept) != 0 {
			return -1, api.OK
		}
		return api.OK, api.OK
	}
}

func TestBySecondWay(t *testing.T) {
	random := rand.New(rand.NewSource(9))
	seen := map[api.Errno]int{}
	for range 400 {
		s, want := share.New(), &second{}
		most := cmp.Or(random.Intn(3)*5, 3)
		for range 60 {
			got, told := thrownStep(random, s, want, most)
			seen[told]++
			if got != told {
				t.Fatalf("the answer is %v, want %v", got, told)
			}
			wantShared(t, s, want.shared())
			if t.Failed() {
				return
			}
		}
	}
	for _, e := range []api.Errno{api.OK, api.ErrRange, api.ErrClash, api.ErrFull, api.ErrSyntax, api.ErrNone} {
		if seen[e] < 100 {
			t.Errorf("too few of an answer were thrown: %v", seen)
		}
	}
}
