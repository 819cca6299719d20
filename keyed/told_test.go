package keyed_test

import (
	"slices"
	"testing"

	"weirgate/api"
)

// Y1, Get, Del and All

func some() []api.Held {
	return list(held(0, "", 3, 4), held(0, "a", 1, 2), held(1, "a", 5, 6), held(1, "b", 0, 0), held(11, "\xff", -1, least))
}

func TestGet(t *testing.T) {
	k := filled(t, some()...)
	wantAll(t, k, some()...)
	for _, h := range list(
		held(0, "b", 0, 0), held(1, "", 0, 0), held(2, "a", 0, 0), held(11, "a", 0, 0), held(11, "", 0, 0), held(0, "A", 0, 0),
		held(0, "a\x00", 0, 0), held(0, "\x00", 0, 0), held(1, "ba", 0, 0), held(10, "\xff", 0, 0), held(11, "\xff\xff", 0, 0)) {
		wantNone(t, k, h.Node, h.Key)
	}
	wantAll(t, k, some()...)
}

func TestGetAndDelOfNoPlace(t *testing.T) {
	k := filled(t, some()...)
	for _, node := range []int{least, -1, 12, 13, 1 << 32, 1<<32 + 1, greatest} {
		for _, key := range []string{"", "a", "b", "\xff", long(41)} {
			wantNone(t, k, node, key)
		}
	}
	for node := range 12 {
		wantNone(t, k, node, long(41))
		wantNone(t, k, node, long(100_000))
	}
	wantAll(t, k, some()...)
}

func TestDel(t *testing.T) {
	for i, h := range some() {
		k, left := filled(t, some()...), slices.Delete(some(), i, i+1)
		wantTold(t, k.Del(h.Node, h.Key), api.OK)
		wantAll(t, k, left...)
		wantNone(t, k, h.Node, h.Key)
		wantAll(t, k, left...)
		// and may be put again
		h.A, h.B = 77, 78
		puts(t, k, h)
		wantAll(t, k, sorted(append(left, h))...)
	}
}

func TestDelOfAll(t *testing.T) {
	k := filled(t, some()...)
	for _, h := range some() {
		wantTold(t, k.Del(h.Node, h.Key), api.OK)
	}
	wantAll(t, k)
	for _, h := range some() {
		wantNone(t, k, h.Node, h.Key)
	}
	wantExported(t, k, 0, 16)
	for i := range 1000 {
		puts(t, k, held(5, key(i), i, i))
		wantTold(t, k.Del(5, key(i)), api.OK)
	}
	wantAll(t, k)
}

// By Node, then Key by bytes, however they were put.
func TestAllIsSorted(t *testing.T) {
	all := list(
		held(0, "", 9, 9), held(0, "\x00", 8, 8), held(0, "A", 7, 7), held(0, "B", 0, 1), held(0, "a", 6, 6), held(0, "a\x00", 5, 5), held(0, "ab", 4, 4), held(0, "b", 3, 3), held(0, "\x7f", 2, 2), held(0, "\x80", 1, 1), held(0, "é", 0, 0), held(0, "\xff", 0, 0),
		held(1, "", 0, 0), held(1, "a", -1, 0), held(2, "", -2, 0), held(9, "", -2, 0), held(10, "", -2, 0), held(11, "", -3, 0), held(11, "z", -4, 0))
	for i := range all {
		turned := slices.Concat(all[i:], all[:i])
		wantAll(t, filled(t, turned...), all...)
		slices.Reverse(turned)
		wantAll(t, filled(t, turned...), all...)
	}
}

// What is given out can be changed without changing the Keyed.
func TestAllIsFresh(t *testing.T) {
	k := filled(t, some()...)
	first, second := k.All(), k.All()
	for i := range first[:cap(first)] {
		first[:cap(first)][i] = held(3, "filled", 1, 1)
	}
	if !slices.Equal(second, some()) {
		t.Errorf("the other list became %v", second)
	}
	wantAll(t, k, some()...)
	_ = append(second[:1], held(4, "more", 1, 1), held(4, "most", 1, 1))
	wantAll(t, k, some()...)
	wantNone(t, k, 3, "filled")
}

// A list that was given out does not change with the Keyed.
func TestAllStays(t *testing.T) {
	k := filled(t, some()...)
	l := k.All()
	puts(t, k, held(0, "a", 99, 99), held(4, "new", 1, 1))
	wantTold(t, k.Del(1, "a"), api.OK)
	wantTold(t, k.Import(written(held(1, "b", 7, 7)), 0, 16), api.OK)
	if !slices.Equal(l, some()) {
		t.Errorf("the list became %v", l)
	}
	wantAll(t, k, held(0, "", 3, 4), held(0, "a", 99, 99), held(1, "b", 7, 7), held(4, "new", 1, 1), held(11, "\xff", -1, least))
}
