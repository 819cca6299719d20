package frame_test

import (
	"bytes"
	"cmp"
	"reflect"
	"slices"
	"strings"
	"testing"

	"weirgate/api"
	"weirgate/frame"
	"weirgate/plain"
)

func held(node int, key string, a, b int) api.Held { return api.Held{Node: node, Key: key, A: a, B: b} }

// helds are so many, rising.
func helds(many int) []api.Held {
	var l []api.Held
	for i := range many {
		l = append(l, held(i/40, strings.Repeat("k", i%40), i*i-50, -i))
	}
	return l
}

// wantHelds holds what is written, and that it is read again.
func wantHelds(t *testing.T, l []api.Held, want ...byte) {
	t.Helper()
	b, err := frame.Helds(l)
	if err != nil || !bytes.Equal(b, want) {
		t.Errorf("Helds(%v) is %v, %v, want %v", l, b, err, want)
	}
	again, err := frame.ReadHelds(want)
	if err != nil || !slices.Equal(again, l) {
		t.Errorf("ReadHelds(%v) is %v, %v, want %v", want, again, err, l)
	}
}

// wantHeldsFault holds what is wrong, and that no such bytes are read.
func wantHeldsFault(t *testing.T, want api.Errno, l ...api.Held) {
	t.Helper()
	if b, err := frame.Helds(l); b != nil || plain.Told(err) != want {
		t.Errorf("Helds(%v) is %v, %v, want nothing, %v", l, b, err, want)
	}
	wantNoHelds(t, writtenHelds(l...))
}

func wantNoHelds(t *testing.T, b []byte) {
	t.Helper()
	if l, err := frame.ReadHelds(b); l != nil || plain.Told(err) != api.ErrFile {
		t.Errorf("ReadHelds(%v) is %v, %v, want nothing, ErrFile", b, l, err)
	}
}

// writtenHelds are states as F1 tells it, whether they may be or not.
func writtenHelds(l ...api.Held) []byte {
	b := frame.Num(len(l))
	for _, h := range l {
		b = joined(b, frame.Num(h.Node), frame.Text(h.Key), frame.Num(h.A), frame.Num(h.B))
	}
	return b
}

// F1, states

func TestHelds(t *testing.T) {
	wantHelds(t, nil, 0)
	wantHelds(t, []api.Held{}, 0)
	wantHelds(t, []api.Held{{}}, 2, 0, 0, 0, 0)
	wantHelds(t, []api.Held{held(3, "d", 7, 0)}, 2, 6, 2, 100, 14, 0)
	wantHelds(t, []api.Held{held(1, "a", 1, -1), held(3, "b", 2, 64)}, 4, 2, 2, 97, 2, 1, 6, 2, 98, 4, 128, 1)
	wantHelds(t, []api.Held{held(0, "\xff\x00", low, high)}, joined([]byte{2, 0, 4, 255, 0}, frame.Num(low), frame.Num(high))...)
}

func TestHeldsOfMany(t *testing.T) {
	for _, many := range []int{1, 2, 63, 64, api.MaxItems - 1, api.MaxItems} {
		l := helds(many)
		wantHelds(t, l, writtenHelds(l...)...)
	}
	wantHeldsFault(t, api.ErrFull, helds(api.MaxItems+1)...)
	wantHeldsFault(t, api.ErrFull, make([]api.Held, 2_000)...)
}

func TestHeldsOfNodes(t *testing.T) {
	for node := range api.MaxNodes {
		wantHelds(t, []api.Held{held(node, "a", 1, 2)}, 2, byte(2*node), 2, 97, 2, 4)
	}
	for _, node := range []int{-1, -2, api.MaxNodes, api.MaxNodes + 1, low, high, 1 << 32, 1 << 62, -1 << 32} {
		wantHeldsFault(t, api.ErrRange, held(node, "a", 1, 2))
		wantHeldsFault(t, api.ErrRange, held(0, "a", 1, 2), held(node, "b", 1, 2))
	}
}

func TestHeldsOfLongKeys(t *testing.T) {
	key := strings.Repeat("\xc3", api.MaxKey)
	wantHelds(t, []api.Held{held(1, key, 1, 2)}, joined([]byte{2, 2, 80}, []byte(key), []byte{2, 4})...)
	wantHeldsFault(t, api.ErrRange, held(1, key+"k", 1, 2))
	wantHeldsFault(t, api.ErrRange, held(0, "a", 1, 2), held(1, strings.Repeat("k", 1000), 1, 2), held(2, "", 0, 0))
}

// A and B may be any numbers: they have no bounds.
func TestHeldsOfNumbers(t *testing.T) {
	for _, num := range []int{0, 1, -1, 63, 64, -64, -65, low, high, low + 1, high - 1} {
		for _, h := range []api.Held{held(2, "a", num, 3), held(2, "a", 3, num), held(2, "a", num, num)} {
			wantHelds(t, []api.Held{h}, writtenHelds(h)...)
		}
	}
}

func TestHeldsThatRise(t *testing.T) {
	l := []api.Held{
		held(0, "", 9, 9), held(0, "\x00", 8, 8), held(0, "A", 7, 7), held(0, "a", 6, 6), held(0, "a\x00", 5, 5), held(0, "ab", 4, 4), held(0, "b", 3, 3), held(0, "\x7f", 2, 2), held(0, "\x80", 1, 1), held(0, "é", 0, 0), held(0, "\xff", 0, 0),
		held(1, "", 0, 0), held(1, "a", -1, 0), held(10, "", -2, 0), held(11, "", -3, 0), held(11, "z", -4, 0),
	}
	wantHelds(t, l, writtenHelds(l...)...)
	for i, one := range l {
		wantHeldsFault(t, api.ErrOrder, one, one)
		wantHeldsFault(t, api.ErrOrder, one, held(one.Node, one.Key, high, high))
		wantHeldsFault(t, api.ErrOrder, one, held(one.Node, one.Key, low, low))
		for _, ahead := range l[:i] {
			wantHelds(t, []api.Held{ahead, one}, writtenHelds(ahead, one)...)
			wantHeldsFault(t, api.ErrOrder, one, ahead)
		}
	}
}

func TestHeldsThatDoNotRiseLater(t *testing.T) {
	wantHeldsFault(t, api.ErrOrder, held(0, "a", 1, 1), held(1, "b", 1, 1), held(0, "c", 1, 1))
	wantHeldsFault(t, api.ErrOrder, held(0, "a", 1, 1), held(1, "b", 1, 1), held(1, "a", 1, 1), held(2, "a", 1, 1))
	wantHeldsFault(t, api.ErrOrder, held(0, "a", 1, 1), held(0, "b", 1, 1), held(0, "b", 2, 1))
}

func TestHeldsOfSeveralFaults(t *testing.T) {
	long := strings.Repeat("k", api.MaxKey+1)
	// of several the first state's
	wantHeldsFault(t, api.ErrOrder, held(1, "a", 1, 1), held(0, "a", 1, 1), held(-1, "a", 1, 1))
	wantHeldsFault(t, api.ErrOrder, held(1, "a", 1, 1), held(1, "a", 1, 1), held(1, long, 1, 1))
	wantHeldsFault(t, api.ErrRange, held(1, "a", 1, 1), held(12, "a", 1, 1), held(0, "a", 1, 1))
	wantHeldsFault(t, api.ErrRange, held(1, long, 1, 1), held(0, "a", 1, 1), held(0, "a", 1, 1))
	// of one state
	wantHeldsFault(t, api.ErrRange, held(1, "a", 1, 1), held(-1, "a", 1, 1))
	wantHeldsFault(t, api.ErrRange, held(1, "a", 1, 1), held(0, long, 1, 1))
	// of all
	l := helds(api.MaxItems + 1)
	l[0].Node = -1
	wantHeldsFault(t, api.ErrFull, l...)
	wantHeldsFault(t, api.ErrRange, l[:api.MaxItems]...)
	l[0] = held(11, "z", 0, 0)
	wantHeldsFault(t, api.ErrFull, l...)
	wantHeldsFault(t, api.ErrOrder, l[:api.MaxItems]...)
}

// F1, what is no such bytes

func TestReadHeldsCutOffOrLonger(t *testing.T) {
	for _, l := range [][]api.Held{nil, {{}}, {held(0, "abc", 700, 9000), held(3, "", -700, 1), held(11, "d", low, 0)}, helds(64)} {
		b := writtenHelds(l...)
		for end := range b {
			wantNoHelds(t, b[:end])
		}
		for _, more := range []byte{0, 1, 2, 128, 255} {
			wantNoHelds(t, append(bytes.Clone(b), more))
		}
		wantNoHelds(t, joined(b, b))
	}
	wantNoHelds(t, nil)
	wantNoHelds(t, []byte{})
}

// What lies behind a list's length is not read.
func TestReadHeldsBehindTheLength(t *testing.T) {
	b := writtenHelds(held(2, "abc", 1, 2))
	longer := append(bytes.Clone(b), 0, 0, 0)
	l, err := frame.ReadHelds(longer[:len(b)])
	if err != nil || !slices.Equal(l, []api.Held{held(2, "abc", 1, 2)}) {
		t.Errorf("ReadHelds is %v, %v", l, err)
	}
}

func TestReadHeldsOfIllNumbers(t *testing.T) {
	for _, num := range ill() {
		wantNoHelds(t, num)
		wantNoHelds(t, joined(num, []byte{2, 2, 97, 2, 2}))
		wantNoHelds(t, joined([]byte{2}, num, []byte{2, 97, 2, 2}))
		wantNoHelds(t, joined([]byte{2, 2}, num, []byte{97, 2, 2}))
		wantNoHelds(t, joined([]byte{2, 2}, num, []byte{2, 2}))
		wantNoHelds(t, joined([]byte{2, 2, 2, 97}, num, []byte{2}))
		wantNoHelds(t, joined([]byte{2, 2, 2, 97, 2}, num))
	}
}

func TestReadHeldsOfIllCounts(t *testing.T) {
	one := writtenHelds(held(1, "a", 1, 1))[1:]
	for _, many := range []int{-1, -2, low, low + 1, high, 1 << 32, 1 << 60, 0, 2, 3, api.MaxItems, api.MaxItems + 1} {
		wantNoHelds(t, joined(frame.Num(many), one))
	}
}

func TestReadHeldsOfIllLengths(t *testing.T) {
	for _, many := range []int{-1, -2, -64, low, low + 1, high, high - 1, 1 << 32, 1 << 62, 5, 4} {
		wantNoHelds(t, joined([]byte{2, 2}, frame.Num(many), []byte{97, 2, 2, 2}))
	}
	wantNoHelds(t, []byte{2, 2, 6, 97, 2, 2})
}

// What is handed in is neither changed nor kept, what comes out is fresh.
func TestHeldsAreFresh(t *testing.T) {
	l := append(helds(3), held(0, "behind", 7, -7))[:3]
	b, err := frame.Helds(l)
	if want := append(helds(3), held(0, "behind", 7, -7)); err != nil || !reflect.DeepEqual(l[:4], want) {
		t.Errorf("%v: the states became %v", err, l[:4])
	}
	before := bytes.Clone(b)
	first, err := frame.ReadHelds(b)
	if err != nil || !bytes.Equal(b, before) {
		t.Errorf("%v: the bytes became %v, were %v", err, b, before)
	}
	second, _ := frame.ReadHelds(b)
	fill(b)
	for i := range first[:cap(first)] {
		first[:cap(first)][i] = held(9, "filled", 1, 1)
	}
	if !slices.Equal(second, helds(3)) {
		t.Errorf("the states became %v", second)
	}
	if again, _ := frame.Helds(l); !bytes.Equal(again, before) {
		t.Errorf("Helds is %v, was %v", again, before)
	}
}

// For layers that have states.

func TestIsHeld(t *testing.T) {
	for node := range api.MaxNodes {
		for many := range api.MaxKey + 1 {
			if h := held(node, strings.Repeat("\xff", many), low, high); !frame.IsHeld(h) {
				t.Errorf("IsHeld(%v) is false", h)
			}
		}
	}
	for _, h := range []api.Held{held(-1, "", 0, 0), held(api.MaxNodes, "a", 0, 0), held(low, "", 1, 1), held(high, "", 1, 1), held(1<<32, "", 1, 1), held(3, strings.Repeat("k", api.MaxKey+1), 0, 0)} {
		if frame.IsHeld(h) {
			t.Errorf("IsHeld(%v) is true", h)
		}
	}
}

func TestCompare(t *testing.T) {
	l := []api.Held{held(low, "z", 9, 9), held(-1, "z", 8, 8), held(0, "", 7, 7), held(0, "a", 6, 6), held(0, "a\x00", 5, 5), held(0, "\xff", 4, 4), held(2, "", 3, 3), held(10, "", 2, 2), held(high, "", 1, 1)}
	for i, a := range l {
		for j, b := range l {
			if got, want := frame.Compare(a, b), cmp.Compare(i, j); cmp.Compare(got, 0) != want {
				t.Errorf("Compare(%v, %v) is %d, want %d", a, b, got, want)
			}
		}
		if got := frame.Compare(a, held(a.Node, a.Key, -a.A, 0)); got != 0 {
			t.Errorf("Compare of the same place is %d", got)
		}
	}
}
