package disk_test

import (
	"maps"
	"math/rand"
	"strings"
	"testing"

	"weirgate/api"
	"weirgate/disk"
	"weirgate/plain"
)

// A second way to the same answers: all that was there is kept, as it was
// behind each thing that was done since all was safe, and a Crash goes back
// to one of these.
type second struct {
	was   []files // the safe ones first, those that are there last
	steps int
	stop  func() bool
}

func newSecond() *second {
	return &second{was: []files{{}}, stop: never}
}

func never() bool { return false }

func (s *second) now() files { return s.was[len(s.was)-1] }

// step tells what is wrong, or does a thing to a copy of all there is.
func (s *second) step(names []string, wrong api.Errno, do func(files)) api.Errno {
	if s.stop() {
		return api.ErrState
	}
	for _, name := range names {
		if strings.Trim(name, "abcdefghijklmnopqrstuvwxyz0123456789-") != "" || len(name) == 0 || len(name) > 20 {
			return api.ErrSyntax
		}
	}
	if wrong == api.OK {
		next := maps.Clone(s.now())
		do(next)
		s.was = append(s.was, next)
		s.steps++
	}
	return wrong
}

func (s *second) write(name string, b []byte) api.Errno {
	wrong := api.OK
	if len(b) > 60_000 {
		wrong = api.ErrFull
	}
	return s.step([]string{name}, wrong, func(f files) { f[name] = string(b) })
}

func (s *second) missing(name string) api.Errno {
	if _, ok := s.now()[name]; !ok {
		return api.ErrNone
	}
	return api.OK
}

func (s *second) rename(from, to string) api.Errno {
	return s.step([]string{from, to}, s.missing(from), func(f files) {
		text := f[from]
		delete(f, from)
		f[to] = text
	})
}

func (s *second) remove(name string) api.Errno {
	return s.step([]string{name}, s.missing(name), func(f files) { delete(f, name) })
}

func (s *second) sync() api.Errno {
	wrong := s.step(nil, api.OK, func(files) {})
	if wrong == api.OK {
		s.was = []files{s.now()}
	}
	return wrong
}

func (s *second) crash(keep int) {
	keep = min(max(keep, 0), len(s.was)-1)
	s.was, s.steps, s.stop = []files{s.was[keep]}, 0, never
}

func (s *second) fail(at int) {
	s.stop = func() bool { return at >= 0 && s.steps >= at }
}

func thrownName(random *rand.Rand) string {
	if random.Intn(25) == 0 {
		return []string{"", "A", "a b", strings.Repeat("a", 21), "a\x80"}[random.Intn(5)]
	}
	return []string{"a", "b", "b-1", "0", strings.Repeat("z", 20)}[random.Intn(5)]
}

func thrownBytes(random *rand.Rand) []byte {
	if random.Intn(50) == 0 {
		return make([]byte, 59_999+random.Intn(3))
	}
	b := make([]byte, random.Intn(4))
	random.Read(b)
	return b
}

// thrownStep does one thing to both, and tells what each of them answered.
func thrownStep(random *rand.Rand, d *disk.Disk, s *second) (got, want api.Errno) {
	name, to := thrownName(random), thrownName(random)
	switch random.Intn(20) {
	default:
		b := thrownBytes(random)
		return plain.Told(d.Write(name, b)), s.write(name, b)
	case 0, 1, 2, 3, 4:
		return plain.Told(d.Rename(name, to)), s.rename(name, to)
	case 5, 6, 7:
		return plain.Told(d.Remove(name)), s.remove(name)
	case 8, 9:
		return plain.Told(d.Sync()), s.sync()
	case 10, 11:
		keep := random.Intn(8) - 1
		d.Crash(keep)
		s.crash(keep)
	case 12:
		at := random.Intn(12) - 3
		d.Fail(at)
		s.fail(at)
	}
	return api.OK, api.OK
}

func TestDiskBySecondWay(t *testing.T) {
	random := rand.New(rand.NewSource(6))
	seen := map[api.Errno]int{}
	for range 400 {
		d, s := disk.New(), newSecond()
		for range 80 {
			got, want := thrownStep(random, d, s)
			seen[want]++
			if got != want {
				t.Fatalf("the answer is %v, want %v", got, want)
			}
			wantFiles(t, d, s.now())
			wantSteps(t, d, s.steps)
			if t.Failed() {
				return
			}
		}
	}
	for _, e := range []api.Errno{api.OK, api.ErrState, api.ErrSyntax, api.ErrNone, api.ErrFull} {
		if seen[e] < 40 {
			t.Errorf("too few of an answer were thrown: %v", seen)
		}
	}
}
