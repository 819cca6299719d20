package keyed_test

import (
	"bytes"
	"cmp"
	"encoding/binary"
	"slices"
	"strconv"
	"strings"
	"testing"

	"weirgate/api"
	"weirgate/keyed"
	"weirgate/plain"
)

const (
	least    = -1 << 63
	greatest = 1<<63 - 1
	// byGroup has a key of one byte of each group, from 0 to 15.
	byGroup = "ajopmfklibghencd"
)

func held(node int, key string, a, b int) api.Held { return api.Held{Node: node, Key: key, A: a, B: b} }

func list(l ...api.Held) []api.Held { return l }

func long(many int) string { return strings.Repeat("\xc3", many) }

// key is that of a number; the numbers' keys rise.
func key(i int) string { return "k" + strconv.Itoa(10_000+i) }

// many are so many states of a node, from the key of a number on.
func many(node, from, many int) []api.Held {
	var l []api.Held
	for i := from; i < from+many; i++ {
		l = append(l, held(node, key(i), i, -i))
	}
	return l
}

// ofGroups has a state of each group from low on, below high, at each of two
// nodes.
func ofGroups(low, high int) []api.Held {
	var l []api.Held
	for g := low; g < high; g++ {
		one := byGroup[g : g+1]
		l = append(l, held(2, one, g, 1), held(7, one, -g, 0))
	}
	return sorted(l)
}

func sorted(l []api.Held) []api.Held {
	return slices.SortedFunc(slices.Values(l), func(a, b api.Held) int {
		return cmp.Or(a.Node-b.Node, strings.Compare(a.Key, b.Key))
	})
}

// written are states as F1 tells it, whether they may be or not.
func written(l ...api.Held) []byte {
	b := binary.AppendVarint(nil, int64(len(l)))
	for _, h := range l {
		b = binary.AppendVarint(b, int64(h.Node))
		b = append(binary.AppendVarint(b, int64(len(h.Key))), h.Key...)
		b = binary.AppendVarint(b, int64(h.A))
		b = binary.AppendVarint(b, int64(h.B))
	}
	return b
}

// filled has these states.
func filled(t *testing.T, l ...api.Held) *keyed.Keyed {
	t.Helper()
	k := keyed.New()
	puts(t, k, l...)
	return k
}

// puts what must go well.
func puts(t *testing.T, k *keyed.Keyed, l ...api.Held) {
	t.Helper()
	for _, h := range l {
		if err := k.Put(h); err != nil {
			t.Errorf("Put(%v) is %v", h, err)
		}
	}
}

// wantTold holds what a call answered.
func wantTold(t *testing.T, err error, want api.Errno) {
	t.Helper()
	if told := plain.Told(err); told != want || (err == nil) != (want == api.OK) {
		t.Errorf("the answer is %v, want %v", err, want)
	}
}

// wantAll holds all that there is, by All and by Get; they are told by Node,
// then Key.
func wantAll(t *testing.T, k *keyed.Keyed, want ...api.Held) {
	t.Helper()
	if l := k.All(); !slices.Equal(l, want) {
		t.Errorf("there are %v, want %v", l, want)
	}
	for _, h := range want {
		if got, err := k.Get(h.Node, h.Key); got != h || err != nil {
			t.Errorf("Get(%d, %q) is %v, %v, want %v", h.Node, h.Key, got, err, h)
		}
	}
}

// wantNone holds that a state is not there, for Get and Del.
func wantNone(t *testing.T, k *keyed.Keyed, node int, key string) {
	t.Helper()
	if h, err := k.Get(node, key); h != (api.Held{}) || plain.Told(err) != api.ErrNone {
		t.Errorf("Get(%d, %q) is %v, %v, want nothing, ErrNone", node, key, h, err)
	}
	wantTold(t, k.Del(node, key), api.ErrNone)
}

func exported(t *testing.T, k *keyed.Keyed, low, high int) []byte {
	t.Helper()
	b, err := k.Export(low, high)
	if b == nil || err != nil {
		t.Errorf("Export(%d, %d) is %v, %v", low, high, b, err)
	}
	return b
}

func wantExported(t *testing.T, k *keyed.Keyed, low, high int, want ...api.Held) {
	t.Helper()
	if b := exported(t, k, low, high); !bytes.Equal(b, written(want...)) {
		t.Errorf("Export(%d, %d) is %v, want the bytes of %v", low, high, b, want)
	}
}

func wantWhole(t *testing.T, l [][]byte, want ...api.Held) {
	t.Helper()
	if b, err := keyed.Whole(l); !bytes.Equal(b, written(want...)) || err != nil {
		t.Errorf("Whole(%v) is %v, %v, want the bytes of %v", l, b, err, want)
	}
}

func wantNoWhole(t *testing.T, want api.Errno, l ...[]byte) {
	t.Helper()
	if b, err := keyed.Whole(l); b != nil || plain.Told(err) != want {
		t.Errorf("Whole of %d is %v, %v, want nothing, %v", len(l), b, err, want)
	}
}

// noRanges are such that are none of groups, low and high.
func noRanges() [][2]int {
	return [][2]int{
		{-1, 0}, {-1, 16}, {-1, -1}, {-2, -1}, {least, 16}, {least, least}, {least, greatest}, {-1 << 32, 5},
		{0, 17}, {16, 17}, {17, 17}, {0, greatest}, {greatest, greatest}, {5, 1 << 32}, {1 << 32, 1 << 32}, {5, 17},
		{1, 0}, {16, 0}, {16, 15}, {9, 8}, {15, 3}, {greatest, least}, {17, 16}, {0, -1}, {0, least}, {greatest, 0},
		{-16, 32}, {17, 3}, {3, -1},
	}
}

// noExports are bytes that Export never writes.
func noExports() [][]byte {
	whole := written(held(0, "a", 1, 2), held(3, "d", -700, greatest))
	l := [][]byte{
		nil, {}, {1}, {2}, {128}, {128, 0}, {0, 0},
		append(bytes.Clone(whole), 0), append(bytes.Clone(whole), whole...), whole[1:],
		written(held(-1, "a", 1, 1)), written(held(12, "a", 1, 1)), written(held(least, "a", 1, 1)), written(held(greatest, "a", 1, 1)),
		written(held(1, long(41), 1, 1)),
		written(held(1, "a", 1, 1), held(1, "a", 1, 1)),
		written(held(1, "a", 1, 1), held(1, "a", 2, 3)),
		written(held(1, "b", 1, 1), held(1, "a", 1, 1)),
		written(held(2, "a", 1, 1), held(1, "b", 1, 1)),
		written(many(5, 0, 401)...),
		{2, 0, 2, 97, 130, 0, 0}, // a number with a needless byte
		{4, 0, 2, 97, 2, 4},      // fewer than told
		{2, 0, 1, 97, 2, 4},      // a text of fewer than no byte
	}
	for end := range whole {
		l = append(l, bytes.Clone(whole[:end]))
	}
	return l
}

// changed are bytes that differ from these in one.
func changed(b []byte) [][]byte {
	var l [][]byte
	for i := range b {
		for x := 1; x < 256; x++ {
			other := bytes.Clone(b)
			other[i] ^= byte(x)
			l = append(l, other)
		}
	}
	return l
}

// fill writes over a list and all that lies behind it in its memory.
func fill(b []byte) {
	b = b[:cap(b)]
	for i := range b {
		b[i] = 99
	}
}
