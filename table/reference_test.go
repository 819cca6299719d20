package table_test

import (
	"bytes"
	"math/rand"
	"slices"
	"sort"
	"strings"
	"testing"

	"weirgate/api"
	"weirgate/frame"
	"weirgate/plain"
	"weirgate/table"
)

// A second way to the same answers: entries stay lists, and each key is looked
// for from the first entry on.

func secondBuild(l []api.Entry) api.Errno {
	if len(l) > 400 {
		return api.ErrFull
	}
	last := ""
	for i, e := range l {
		switch {
		case max(len(e.Key), len(e.Value)) > 120:
			return api.ErrRange
		case e.Dead && len(e.Value) > 0:
			return api.ErrShape
		case i > 0 && strings.Compare(last, e.Key) != -1:
			return api.ErrOrder
		}
		last = e.Key
	}
	return api.OK
}

func secondGet(l []api.Entry, key string) (api.Entry, api.Errno) {
	for _, e := range l {
		if e.Key == key {
			return e, api.OK
		}
	}
	return api.Entry{}, api.ErrNone
}

func secondScan(l []api.Entry, low, high string) []api.Entry {
	if high == "" {
		high = strings.Repeat("\xff", 121)
	}
	l = slices.DeleteFunc(slices.Clone(l), func(e api.Entry) bool { return e.Key < low })
	return slices.DeleteFunc(l, func(e api.Entry) bool { return e.Key >= high })
}

func secondMerge(tables [][]api.Entry, dead bool) ([]api.Entry, api.Errno) {
	all := slices.Concat(tables...)
	sort.SliceStable(all, func(i, j int) bool { return all[i].Key < all[j].Key })
	all = slices.CompactFunc(all, func(a, b api.Entry) bool { return a.Key == b.Key })
	var left []api.Entry
	for _, e := range all {
		if dead || !e.Dead {
			left = append(left, e)
		}
	}
	if len(left) > 400 {
		return nil, api.ErrFull
	}
	return left, api.OK
}

func thrownText(random *rand.Rand) string {
	if random.Intn(200) == 0 {
		return strings.Repeat("a", 118+random.Intn(4))
	}
	b := make([]byte, random.Intn(4))
	for i := range b {
		b[i] = "ab\x00\x80\xff"[random.Intn(5)]
	}
	return string(b)
}

func thrownEntry(random *rand.Rand) api.Entry {
	switch random.Intn(40) {
	case 0:
		return api.Entry{Key: thrownText(random), Value: thrownText(random), Dead: true}
	default:
		return put(thrownText(random), thrownText(random))
	case 1, 2, 3, 4, 5, 6, 7, 8, 9, 10:
		return gone(thrownText(random))
	}
}

// thrownEntries are mostly few that rise.
func thrownEntries(random *rand.Rand) []api.Entry {
	if random.Intn(20) == 0 {
		return rising(random.Intn(300), 400*random.Intn(2)+random.Intn(3))
	}
	var l []api.Entry
	for range random.Intn(8) {
		l = append(l, thrownEntry(random))
	}
	if random.Intn(5) > 0 {
		sort.SliceStable(l, func(i, j int) bool { return l[i].Key < l[j].Key })
		l = slices.CompactFunc(l, func(a, b api.Entry) bool { return a.Key == b.Key })
	}
	return l
}

// thrownTable is one that is right.
func thrownTable(t *testing.T, random *rand.Rand) ([]byte, []api.Entry) {
	for {
		l := thrownEntries(random)
		if secondBuild(l) == api.OK {
			return built(t, l...), l
		}
	}
}

func TestBuildBySecondWay(t *testing.T) {
	random := rand.New(rand.NewSource(7))
	seen := map[api.Errno]int{}
	for range 20_000 {
		l := thrownEntries(random)
		want := secondBuild(l)
		seen[want]++
		if want == api.OK {
			wantBuilt(t, l...)
		} else {
			wantUnbuilt(t, want, l...)
		}
		if t.Failed() {
			return
		}
	}
	wantSeen(t, seen, api.OK, api.ErrRange, api.ErrShape, api.ErrOrder, api.ErrFull)
}

func TestFindBySecondWay(t *testing.T) {
	random := rand.New(rand.NewSource(77))
	seen := map[api.Errno]int{}
	for range 5_000 {
		b, l := thrownTable(t, random)
		for range 4 {
			key, to := thrownText(random), thrownText(random)
			want, told := secondGet(l, key)
			seen[told]++
			if got, err := table.Get(b, key); got != want || plain.Told(err) != told {
				t.Fatalf("Get(%v, %q) is %v, %v, want %v, %v", l, key, got, err, want, told)
			}
			wantScanned(t, b, key, to, secondScan(l, key, to)...)
		}
		if t.Failed() {
			return
		}
	}
	wantSeen(t, seen, api.OK, api.ErrNone)
}

func TestMergeBySecondWay(t *testing.T) {
	random := rand.New(rand.NewSource(777))
	seen := map[api.Errno]int{}
	for range 5_000 {
		var tables [][]byte
		var lists [][]api.Entry
		for range random.Intn(6) {
			b, l := thrownTable(t, random)
			tables, lists = append(tables, b), append(lists, l)
		}
		dead := random.Intn(2) == 0
		want, told := secondMerge(lists, dead)
		seen[told]++
		if told == api.OK {
			wantMerged(t, tables, dead, want...)
		} else if b, err := table.Merge(tables, dead); b != nil || plain.Told(err) != told {
			t.Errorf("Merge(%v, %v) is %v, %v, want nothing, %v", lists, dead, b, err, told)
		}
		if t.Failed() {
			return
		}
	}
	wantSeen(t, seen, api.OK, api.ErrFull)
}

// wantSeen holds that each answer was thrown often enough.
func wantSeen(t *testing.T, seen map[api.Errno]int, all ...api.Errno) {
	t.Helper()
	for _, told := range all {
		if seen[told] < 20 {
			t.Errorf("%v was thrown %d times", told, seen[told])
		}
	}
}

// Whatever bytes there are: what Read takes is what Build gives of it.
func TestReadOfThrownBytes(t *testing.T) {
	random := rand.New(rand.NewSource(7777))
	taken := 0
	for range 50_000 {
		b, _ := thrownTable(t, random)
		b = bytes.Clone(b)
		for range random.Intn(3) {
			b[random.Intn(len(b))] = byte(random.Intn(256))
		}
		l, err := table.Read(b)
		if err == nil {
			taken++
			wantRead(t, b, l...)
		} else if l != nil || plain.Told(err) != api.ErrFile {
			t.Errorf("Read(%v) is %v, %v", b, l, err)
		}
		if t.Failed() {
			return
		}
	}
	if taken < 1000 {
		t.Errorf("%d were taken", taken)
	}
}

// Sealed anew, so that what is inside must be told right.
func TestReadOfThrownPieces(t *testing.T) {
	random := rand.New(rand.NewSource(77777))
	taken := 0
	for range 50_000 {
		var l []api.Entry
		for range random.Intn(4) {
			l = append(l, thrownEntry(random))
		}
		piece := unsealed(len(l), l...)
		for range random.Intn(3) {
			piece[random.Intn(len(piece))] = byte(random.Intn(6))
		}
		b := frame.Seal(piece)
		got, err := table.Read(b)
		if err == nil {
			taken++
			wantRead(t, b, got...)
		} else if got != nil || plain.Told(err) != api.ErrFile {
			t.Errorf("Read(%v) is %v, %v", b, got, err)
		}
		if t.Failed() {
			return
		}
	}
	if taken < 1000 {
		t.Errorf("%d were taken", taken)
	}
}
