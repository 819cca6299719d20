package keyed_test

import (
	"bytes"
	"slices"
	"testing"

	"weirgate/api"
	"weirgate/group"
	"weirgate/keyed"
)

// Y2, Whole

func TestWhole(t *testing.T) {
	wantWhole(t, nil)
	wantWhole(t, [][]byte{})
	wantWhole(t, [][]byte{{0}})
	wantWhole(t, [][]byte{{0}, {0}, {0}})
	wantWhole(t, [][]byte{written(some()...)}, some()...)
	wantWhole(t, [][]byte{{0}, written(some()...), {0}}, some()...)
	one, other := written(held(0, "b", 1, 1), held(3, "a", 4, 4)), written(held(0, "a", 2, 2), held(0, "c", 3, 3), held(4, "a", 5, 5))
	both := list(held(0, "a", 2, 2), held(0, "b", 1, 1), held(0, "c", 3, 3), held(3, "a", 4, 4), held(4, "a", 5, 5))
	wantWhole(t, [][]byte{one, other}, both...)
	wantWhole(t, [][]byte{other, one}, both...)
}

// What Exports of all workers' ranges hold, together, is what the Export of
// all groups holds, in whatever order they stand.
func TestWholeOfWorkers(t *testing.T) {
	for _, all := range append(fulls(), nil, some(), ofGroups(0, 16), ofGroups(3, 9)) {
		k := filled(t, all...)
		for workers := 1; workers <= 16; workers++ {
			var l [][]byte
			for i := range workers {
				low, high, err := group.Range(workers, i)
				wantTold(t, err, api.OK)
				l = append(l, exported(t, k, low, high))
			}
			wantWhole(t, l, all...)
			slices.Reverse(l)
			wantWhole(t, l, all...)
			wantWhole(t, append(l[workers/2:], l[:workers/2]...), all...)
		}
	}
}

func TestWholeOfNoExport(t *testing.T) {
	good, other := written(some()...), written(held(5, "x", 1, 1))
	for _, b := range noExports() {
		wantNoWhole(t, api.ErrFile, b)
		wantNoWhole(t, api.ErrFile, b, good)
		wantNoWhole(t, api.ErrFile, good, b)
		wantNoWhole(t, api.ErrFile, good, b, other)
		wantNoWhole(t, api.ErrFile, b, b)
	}
}

// Bytes that were changed are just those of other states, or none.
func TestWholeOfChangedBytes(t *testing.T) {
	refused := 0
	for _, b := range changed(written(held(0, "ab", 1, 200), held(3, "d", -700, 0))) {
		whole, err := keyed.Whole([][]byte{{0}, b})
		if err != nil {
			refused++
			wantNoWhole(t, api.ErrFile, []byte{0}, b)
		} else if !bytes.Equal(whole, b) {
			t.Errorf("of %v it is %v", b, whole)
		}
	}
	if refused < 500 {
		t.Errorf("%d were refused", refused)
	}
}

func TestWholeOfClash(t *testing.T) {
	all := some()
	b := written(all...)
	wantNoWhole(t, api.ErrClash, b, b)
	wantNoWhole(t, api.ErrClash, b, []byte{0}, b)
	wantNoWhole(t, api.ErrClash, b, b, b)
	for i, h := range all {
		wantNoWhole(t, api.ErrClash, b, written(h))
		wantNoWhole(t, api.ErrClash, written(h), b)
		wantNoWhole(t, api.ErrClash, written(held(h.Node, h.Key, 77, 77)), b)
		wantNoWhole(t, api.ErrClash, written(held(4, "x", 1, 1)), b, written(h, held(11, "\xff\xff", 1, 1)))
		wantWhole(t, [][]byte{written(h), written(slices.Delete(some(), i, i+1)...)}, all...)
	}
	// a node, or a key, that is the same is none
	wantWhole(t, [][]byte{written(held(1, "a", 1, 1)), written(held(2, "a", 1, 1)), written(held(1, "b", 1, 1))},
		held(1, "a", 1, 1), held(1, "b", 1, 1), held(2, "a", 1, 1))
}

func TestWholeOfFull(t *testing.T) {
	for _, all := range fulls() {
		wantWhole(t, [][]byte{written(all...)}, all...)
		wantWhole(t, [][]byte{written(all[200:]...), {0}, written(all[:200]...)}, all...)
		other := written(held(3, "other", 1, 1))
		wantNoWhole(t, api.ErrFull, written(all...), other)
		wantNoWhole(t, api.ErrFull, other, written(all...))
		wantNoWhole(t, api.ErrFull, written(all[:200]...), other, written(all[200:]...))
		wantWhole(t, [][]byte{written(all[1:]...), other}, sorted(append(all[1:], held(3, "other", 1, 1)))...)
	}
	var l [][]byte
	for i := range 2_000 {
		l = append(l, written(held(4, key(i), i, i)))
	}
	wantNoWhole(t, api.ErrFull, l...)
	wantNoWhole(t, api.ErrFull, l[:401]...)
	if b, err := keyed.Whole(l[:400]); err != nil || len(b) < 400*10 {
		t.Errorf("Whole of 400 is %d bytes, %v", len(b), err)
	}
}

// Which error comes first: ErrFile, ErrClash, ErrFull.
func TestWholeOfSeveralFaults(t *testing.T) {
	b, most, bad := written(some()...), written(many(4, 0, 400)...), []byte{9}
	wantNoWhole(t, api.ErrFile, b, b, bad)
	wantNoWhole(t, api.ErrFile, bad, b, b)
	wantNoWhole(t, api.ErrFile, b, most, bad)
	wantNoWhole(t, api.ErrFile, bad, b, most)
	wantNoWhole(t, api.ErrFile, most, most, b, bad)
	wantNoWhole(t, api.ErrClash, most, most)
	wantNoWhole(t, api.ErrClash, b, most, b)
	wantNoWhole(t, api.ErrClash, most, b, b)
	wantNoWhole(t, api.ErrClash, b, b, most)
	wantNoWhole(t, api.ErrFull, b, most)
}

// What is handed in is neither changed nor kept, and what comes out is fresh.
func TestWholeLeavesBytes(t *testing.T) {
	one, other := written(some()...), append(written(held(5, "x", 1, 1)), 1, 2)
	l := [][]byte{one, other[:len(other)-2], {0}, {7}}
	before := [][]byte{bytes.Clone(one), written(held(5, "x", 1, 1)), {0}, {7}}
	first, err := keyed.Whole(l[:3])
	wantTold(t, err, api.OK)
	second, err := keyed.Whole(l[:3])
	wantTold(t, err, api.OK)
	if !slices.EqualFunc(l, before, bytes.Equal) || !bytes.Equal(other[len(other)-2:], []byte{1, 2}) {
		t.Errorf("the lists became %v", l)
	}
	fill(first)
	fill(one)
	fill(other)
	if want := sorted(append(some(), held(5, "x", 1, 1))); !bytes.Equal(second, written(want...)) {
		t.Errorf("the bytes became %v", second)
	}
}

// A Whole of one is fresh, too.
func TestWholeOfOneIsFresh(t *testing.T) {
	b := written(some()...)
	whole, err := keyed.Whole([][]byte{b})
	wantTold(t, err, api.OK)
	fill(whole)
	if !bytes.Equal(b, written(some()...)) {
		t.Errorf("the bytes became %v", b)
	}
}

// What is together may be imported, and come apart again.
func TestWholeIsAnExport(t *testing.T) {
	from := filled(t, ofGroups(0, 16)...)
	whole, err := keyed.Whole([][]byte{exported(t, from, 9, 16), exported(t, from, 0, 9)})
	wantTold(t, err, api.OK)
	for low := range 17 {
		k := keyed.New()
		imports(t, k, whole, low, 16)
		wantAll(t, k, ofGroups(low, 16)...)
	}
}
