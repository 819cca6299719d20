package keep_test

import (
	"math/rand"
	"strconv"
	"testing"

	"weirgate/api"
	"weirgate/disk"
)

// P1, P2: thrown Saves, Cleans, stops and crashes, held against a plain list of
// what was given

func thrownId(random *rand.Rand) int {
	if random.Intn(30) == 0 {
		return noIds()[random.Intn(len(noIds()))]
	}
	return []int{1, 2, 9, 10, 11, 99, 100, 1000, billion}[random.Intn(9)]
}

// thrownText is unlike all others, so that it is told whose it is.
func thrownText(random *rand.Rand, num int) string {
	if random.Intn(20) == 0 {
		return ""
	}
	return strconv.Itoa(num) + string(big(random.Intn(100)))
}

// thrownStep does one thing, and tells what it answered.
func thrownStep(t *testing.T, random *rand.Rand, d *disk.Disk, m model, num int) api.Errno {
	t.Helper()
	switch random.Intn(12) {
	default:
		return m.save(t, d, thrownId(random), thrownText(random, num))
	case 0, 1:
		return m.clean(t, d, random.Intn(5))
	case 2, 3:
		m.crash(t, d, random.Intn(8)-1)
	case 4, 5, 6:
		d.Fail(d.Steps() + random.Intn(6))
	case 7:
		d.Fail(-1)
	}
	return api.OK
}

func TestByPlainList(t *testing.T) {
	random := rand.New(rand.NewSource(14))
	seen := map[api.Errno]int{}
	unsafe := 0
	for range 250 {
		d, m := disk.New(), model{}
		for num := range 60 {
			seen[thrownStep(t, random, d, m, num)]++
			for _, g := range m {
				if !g.sure {
					unsafe++
				}
			}
			if t.Failed() {
				t.Fatalf("it failed at step %d", num)
			}
		}
	}
	for _, e := range []api.Errno{api.OK, api.ErrRange, api.ErrState, api.ErrClash} {
		if seen[e] < 200 {
			t.Errorf("too few of an answer were thrown: %v", seen)
		}
	}
	if unsafe < 200 {
		t.Errorf("too few were broken off: %d", unsafe)
	}
}
