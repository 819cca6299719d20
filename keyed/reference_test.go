package keyed_test

import (
	"bytes"
	"encoding/binary"
	"hash/fnv"
	"math/rand"
	"slices"
	"testing"

	"weirgate/api"
	"weirgate/keyed"
	"weirgate/plain"
)

// A second way to the same answers: the states are a list, as they came, in
// which all is looked for; bytes are read by encoding/binary, and are such if
// the same ones come of what was read; groups are reckoned by hash/fnv.

type second []api.Held

func same(h api.Held) func(api.Held) bool {
	return func(other api.Held) bool { return other.Node == h.Node && other.Key == h.Key }
}

func mayBe(h api.Held) bool {
	return slices.Contains([]int{0, 1, 2, 3, 4, 5, 6, 7, 8, 9, 10, 11}, h.Node) && len(h.Key) <= 40
}

func inGroups(h api.Held, low, high int) bool {
	sum := fnv.New32a()
	sum.Write([]byte(h.Key))
	x := int(sum.Sum32())
	g := (x/65536 ^ x) % 16
	return low <= g && g < high
}

func isRange(low, high int) bool {
	for i := range 17 {
		if i == low {
			return low <= high && high < 17
		}
	}
	return false
}

func (s *second) put(h api.Held) api.Errno {
	switch at := slices.IndexFunc(*s, same(h)); {
	case !mayBe(h):
		return api.ErrRange
	case at >= 0:
		(*s)[at] = h
	case len(*s) == 400:
		return api.ErrFull
	default:
		*s = append(*s, h)
	}
	return api.OK
}

func (s *second) del(h api.Held) api.Errno {
	had := len(*s)
	*s = slices.DeleteFunc(*s, same(h))
	if len(*s) == had {
		return api.ErrNone
	}
	return api.OK
}

func (s second) export(low, high int) ([]byte, api.Errno) {
	if !isRange(low, high) {
		return nil, api.ErrRange
	}
	var l []api.Held
	for _, h := range sorted(s) {
		if inGroups(h, low, high) {
			l = append(l, h)
		}
	}
	return written(l...), api.OK
}

// read gives the states of bytes, and whether they are such.
func read(b []byte) ([]api.Held, bool) {
	from := bytes.NewReader(b)
	num := func() int {
		n, _ := binary.ReadVarint(from)
		return int(n)
	}
	var l []api.Held
	for range min(max(num(), 0), 400) {
		h := api.Held{Node: num()}
		text := make([]byte, min(max(num(), 0), 40))
		from.Read(text)
		h.Key, h.A, h.B = string(text), num(), num()
		l = append(l, h)
	}
	there := second{}
	for _, h := range l {
		if there.put(h) != api.OK {
			return nil, false
		}
	}
	return l, len(there) == len(l) && bytes.Equal(written(sorted(l)...), b)
}

func (s *second) take(b []byte, low, high int) api.Errno {
	if !isRange(low, high) {
		return api.ErrRange
	}
	l, is := read(b)
	if !is {
		return api.ErrFile
	}
	next := slices.Clone(*s)
	for _, h := range l {
		if inGroups(h, low, high) && next.put(h) != api.OK {
			return api.ErrFull
		}
	}
	*s = next
	return api.OK
}

func whole(l [][]byte) ([]byte, api.Errno) {
	var all []api.Held
	for _, b := range l {
		own, is := read(b)
		if !is {
			return nil, api.ErrFile
		}
		all = append(all, own...)
	}
	for i, h := range all {
		if slices.ContainsFunc(all[:i], same(h)) {
			return nil, api.ErrClash
		}
	}
	if len(all) > 400 {
		return nil, api.ErrFull
	}
	return written(sorted(all)...), api.OK
}

func thrownKey(random *rand.Rand) string {
	if random.Intn(20) == 0 {
		return long(39 + random.Intn(3))
	}
	b := make([]byte, random.Intn(3))
	for i := range b {
		b[i] = "abcd\x00\xff"[random.Intn(6)]
	}
	return string(b)
}

func thrownHeld(random *rand.Rand) api.Held {
	node := random.Intn(4)
	if random.Intn(10) == 0 {
		node = []int{-1, 10, 11, 12, least, greatest}[random.Intn(6)]
	}
	return held(node, thrownKey(random), random.Intn(9)-4, random.Intn(1000)-500)
}

func thrownRange(random *rand.Rand) (low, high int) {
	if random.Intn(2) == 0 {
		return 0, 16
	}
	return random.Intn(18) - 1, random.Intn(19) - 1
}

// thrownBytes are an export of some states, at times none any more.
func thrownBytes(random *rand.Rand) []byte {
	var s second
	for range random.Intn(1 + random.Intn(12)) {
		s.put(thrownHeld(random))
	}
	if random.Intn(6) == 0 {
		s = append(s, many(4+random.Intn(6), random.Intn(300), random.Intn(380))...)
	}
	b, _ := s.export(0, 16)
	switch random.Intn(8) {
	case 0:
		b[random.Intn(len(b))] ^= 1 << random.Intn(8)
	case 1:
		b = b[:random.Intn(len(b))]
	case 2:
		b = append(b, byte(random.Intn(3)))
	}
	return b
}

// thrownStep does one thing to both, and tells what each of them answered.
func thrownStep(random *rand.Rand, k *keyed.Keyed, want *second) (got, told api.Errno) {
	h := thrownHeld(random)
	low, high := thrownRange(random)
	switch random.Intn(8) {
	default:
		return plain.Told(k.Put(h)), want.put(h)
	case 0:
		return plain.Told(k.Del(h.Node, h.Key)), want.del(h)
	case 1:
		b, err := k.Export(low, high)
		other, told := want.export(low, high)
		if !bytes.Equal(b, other) {
			return -1, told
		}
		return plain.Told(err), told
	case 2, 3:
		b := thrownBytes(random)
		return plain.Told(k.Import(b, low, high)), want.take(b, low, high)
	}
}

func TestBySecondWay(t *testing.T) {
	random := rand.New(rand.NewSource(10))
	seen := map[api.Errno]int{}
	for range 400 {
		k, want := keyed.New(), &second{}
		for range 60 {
			got, told := thrownStep(random, k, want)
			seen[told]++
			if got != told {
				t.Fatalf("the answer is %v, want %v", got, told)
			}
			wantAll(t, k, sorted(*want)...)
			if t.Failed() {
				return
			}
		}
	}
	wantSeen(t, seen, api.OK, api.ErrRange, api.ErrFull, api.ErrNone, api.ErrFile)
}

func TestWholeBySecondWay(t *testing.T) {
	random := rand.New(rand.NewSource(11))
	seen := map[api.Errno]int{}
	for range 10_000 {
		var l [][]byte
		for range random.Intn(5) {
			l = append(l, thrownBytes(random))
		}
		b, err := keyed.Whole(l)
		want, told := whole(l)
		seen[told]++
		if !bytes.Equal(b, want) || plain.Told(err) != told {
			t.Fatalf("Whole(%v) is %v, %v, want %v, %v", l, b, err, want, told)
		}
	}
	wantSeen(t, seen, api.OK, api.ErrFile, api.ErrClash, api.ErrFull)
}

// wantSeen holds that each answer was thrown often enough.
func wantSeen(t *testing.T, seen map[api.Errno]int, all ...api.Errno) {
	t.Helper()
	for _, told := range all {
		if seen[told] < 20 {
			t.Errorf("%v was thrown %d times", told, seen[told])
		}
	}
}
