package keyed_test

import (
	"slices"
	"strings"
	"testing"

	"weirgate/api"
	"weirgate/keyed"
)

// Y1, New and Put

func TestNew(t *testing.T) {
	k := keyed.New()
	wantAll(t, k)
	for _, node := range []int{least, -1, 0, 1, 11, 12, greatest} {
		for _, key := range []string{"", "a", "\x00", long(40), long(41)} {
			wantNone(t, k, node, key)
		}
	}
	wantAll(t, k)
}

// Each Keyed is one by itself.
func TestNewOnes(t *testing.T) {
	one, other := keyed.New(), keyed.New()
	puts(t, one, held(1, "a", 2, 3))
	wantAll(t, other)
	wantNone(t, other, 1, "a")
	puts(t, other, held(1, "a", 5, 5))
	wantAll(t, one, held(1, "a", 2, 3))
}

func TestPut(t *testing.T) {
	k := filled(t, held(1, "b", 1, 0), held(0, "a", 7, 9), held(2, "a", 8, -1))
	wantAll(t, k, held(0, "a", 7, 9), held(1, "b", 1, 0), held(2, "a", 8, -1))
	// in place of what is of the same node and key, and of that alone
	puts(t, k, held(1, "b", 5, 6), held(2, "b", 4, 4), held(0, "a", 0, 0))
	wantAll(t, k, held(0, "a", 0, 0), held(1, "b", 5, 6), held(2, "a", 8, -1), held(2, "b", 4, 4))
	puts(t, k, held(1, "b", 5, 6))
	wantAll(t, k, held(0, "a", 0, 0), held(1, "b", 5, 6), held(2, "a", 8, -1), held(2, "b", 4, 4))
}

func TestPutOfAnyNumbers(t *testing.T) {
	for _, num := range []int{least, least + 1, -1, 0, 1, 1 << 32, greatest - 1, greatest} {
		k := filled(t, held(3, "a", num, 5), held(3, "b", 5, num), held(3, "c", num, num))
		wantAll(t, k, held(3, "a", num, 5), held(3, "b", 5, num), held(3, "c", num, num))
	}
}

func TestPutOfNodes(t *testing.T) {
	k := keyed.New()
	var all []api.Held
	for node := range 12 {
		all = append(all, held(node, "a", node, 1))
		puts(t, k, all[node])
		wantAll(t, k, all...)
	}
	for _, node := range []int{least, least + 1, -1 << 32, -12, -1, 12, 13, 16, 1 << 32, 1<<32 + 1, greatest - 1, greatest} {
		for _, key := range []string{"", "a", "z", long(40), long(41)} {
			wantTold(t, k.Put(held(node, key, 7, 7)), api.ErrRange)
			wantNone(t, k, node, key)
		}
	}
	wantAll(t, k, all...)
}

func TestPutOfLongKeys(t *testing.T) {
	k := filled(t, held(0, long(40), 1, 1), held(4, "", 2, 2), held(0, strings.Repeat("z", 40), 3, 3), held(0, "", 0, 0))
	all := list(held(0, "", 0, 0), held(0, strings.Repeat("z", 40), 3, 3), held(0, long(40), 1, 1), held(4, "", 2, 2))
	wantAll(t, k, all...)
	for _, many := range []int{41, 42, 80, 256 + 5, 100_000} {
		for _, node := range []int{0, 4, 11, -1, 12} {
			wantTold(t, k.Put(held(node, long(many), 7, 7)), api.ErrRange)
			wantNone(t, k, node, long(many))
		}
	}
	wantAll(t, k, all...)
}

// A key is bytes, not letters: 20 of two bytes each are 40.
func TestPutOfLetters(t *testing.T) {
	k := filled(t, held(1, strings.Repeat("é", 20), 1, 1))
	wantTold(t, k.Put(held(1, strings.Repeat("é", 21), 1, 1)), api.ErrRange)
	wantTold(t, k.Put(held(1, strings.Repeat("日", 14), 1, 1)), api.ErrRange)
	wantAll(t, k, held(1, strings.Repeat("é", 20), 1, 1))
}

// fulls are ways of having MaxItems states.
func fulls() [][]api.Held {
	spread := slices.Concat(many(0, 0, 1), many(1, 0, 199), many(4, 50, 100), many(11, 0, 100))
	var nodes []api.Held
	for node := range 12 {
		nodes = append(nodes, many(node, 0, 33)...)
	}
	return [][]api.Held{many(0, 0, 400), many(11, 0, 400), spread, append(nodes, many(11, 33, 4)...)}
}

func TestPutOfFull(t *testing.T) {
	for _, all := range fulls() {
		k := filled(t, all...)
		wantAll(t, k, all...)
		for _, h := range list(held(0, "", 1, 1), held(11, "a", 0, 0), held(5, key(399), 2, 2), held(11, key(1000), 0, 0), held(1, long(40), 9, 9)) {
			wantTold(t, k.Put(h), api.ErrFull)
			wantNone(t, k, h.Node, h.Key)
		}
		wantAll(t, k, all...)
		// one that takes the place of another is none too many
		for _, i := range []int{0, 200, 399} {
			all[i].A, all[i].B = i+1000, least
			puts(t, k, all[i])
		}
		wantAll(t, k, all...)
	}
}

func TestPutOfAlmostFull(t *testing.T) {
	k := filled(t, many(3, 0, 399)...)
	puts(t, k, held(4, "", 1, 1))
	wantTold(t, k.Put(held(4, "a", 1, 1)), api.ErrFull)
	wantAll(t, k, append(many(3, 0, 399), held(4, "", 1, 1))...)
}

func TestPutRangeAheadOfFull(t *testing.T) {
	all := many(0, 0, 400)
	k := filled(t, all...)
	for _, h := range list(held(-1, "a", 1, 1), held(12, "a", 1, 1), held(least, "", 1, 1), held(greatest, "", 1, 1), held(0, long(41), 1, 1), held(-1, long(41), 1, 1)) {
		wantTold(t, k.Put(h), api.ErrRange)
	}
	wantAll(t, k, all...)
}

// There is room again, behind Del.
func TestPutBehindDel(t *testing.T) {
	for _, all := range fulls() {
		k := filled(t, all...)
		wantTold(t, k.Del(all[7].Node, all[7].Key), api.OK)
		puts(t, k, held(2, "other", 1, 1))
		wantTold(t, k.Put(all[7]), api.ErrFull)
		wantAll(t, k, sorted(append(slices.Delete(all, 7, 8), held(2, "other", 1, 1)))...)
	}
}
