package frame_test

import (
	"bytes"
	"encoding/binary"
	"math/rand"
	"slices"
	"sort"
	"strings"
	"testing"

	"weirgate/api"
	"weirgate/frame"
	"weirgate/plain"
)

// A second way to the same answers: numbers by encoding/binary, whose Varint
// is written just so. Bytes are right if what is read of them, as far as it
// goes, and is right itself, is written as just those bytes again.

func secondNum(b []byte, n int) []byte { return binary.AppendVarint(b, int64(n)) }

func secondText(b []byte, s string) []byte { return append(secondNum(b, len(s)), s...) }

func secondRecords(l []api.Record) []byte {
	b := secondNum(nil, len(l))
	for _, r := range l {
		b = secondNum(secondNum(secondText(b, r.Key), r.Num), r.Time)
	}
	return b
}

func secondHelds(l []api.Held) []byte {
	b := secondNum(nil, len(l))
	for _, h := range l {
		b = secondNum(secondNum(secondText(secondNum(b, h.Node), h.Key), h.A), h.B)
	}
	return b
}

// taker takes numbers and texts, whatever they are; 0 and "" where there are
// none.
type taker struct{ *bytes.Reader }

func (from taker) num() int {
	n, _ := binary.ReadVarint(from)
	return int(n)
}

func (from taker) text() string {
	many := from.num()
	if many < 0 || many > from.Len() {
		return ""
	}
	b := make([]byte, many)
	from.Read(b)
	return string(b)
}

// bounded keeps a count that is none from being gone through.
func bounded(many int) int { return max(0, min(many, 500)) }

func secondReadRecords(b []byte) ([]api.Record, api.Errno) {
	from := taker{bytes.NewReader(b)}
	var l []api.Record
	for range bounded(from.num()) {
		r := api.Record{}
		r.Key = from.text()
		r.Num = from.num()
		r.Time = from.num()
		l = append(l, r)
	}
	wrong := slices.ContainsFunc(l, func(r api.Record) bool {
		return len(r.Key) > 40 || r.Time < 0 || r.Time > 1_000_000
	})
	if wrong || len(l) > 400 || !bytes.Equal(secondRecords(l), b) {
		return nil, api.ErrFile
	}
	return l, api.OK
}

func secondReadHelds(b []byte) ([]api.Held, api.Errno) {
	from := taker{bytes.NewReader(b)}
	var l []api.Held
	for range bounded(from.num()) {
		h := api.Held{}
		h.Node = from.num()
		h.Key = from.text()
		h.A = from.num()
		h.B = from.num()
		l = append(l, h)
	}
	wrong := false
	for i, h := range l {
		wrong = wrong || len(h.Key) > 40 || h.Node < 0 || h.Node > 11
		wrong = wrong || i > 0 && !rises(l[i-1], h)
	}
	if wrong || len(l) > 400 || !bytes.Equal(secondHelds(l), b) {
		return nil, api.ErrFile
	}
	return l, api.OK
}

func rises(a, b api.Held) bool {
	return a.Node < b.Node || a.Node == b.Node && a.Key < b.Key
}

// secondOpen tries each length that a piece could have.
func secondOpen(b []byte) ([]byte, int, api.Errno) {
	for many := range len(b) {
		size := secondNum(nil, many)
		all := joined(size, b[min(len(size), len(b)):min(len(size)+many, len(b))])
		all = append(all, secondSum(all[len(size):])...)
		if bytes.HasPrefix(b, all) && len(all) == len(size)+many+4 {
			return all[len(size) : len(size)+many], len(all), api.OK
		}
	}
	return nil, 0, api.ErrFile
}

func thrownNum(random *rand.Rand) int {
	n := int(random.Uint64() >> random.Intn(64))
	return n * (1 - 2*random.Intn(2))
}

func thrownKey(random *rand.Rand) string {
	if random.Intn(30) == 0 {
		return strings.Repeat("k", 38+random.Intn(4))
	}
	b := make([]byte, random.Intn(4))
	for i := range b {
		b[i] = "ab\x00\x80\xff"[random.Intn(5)]
	}
	return string(b)
}

// thrownMany is mostly few, sometimes near MaxItems.
func thrownMany(random *rand.Rand) int {
	if random.Intn(40) == 0 {
		return 398 + random.Intn(5)
	}
	return random.Intn(6)
}

func thrownRecords(random *rand.Rand) []api.Record {
	var l []api.Record
	for range thrownMany(random) {
		time := random.Intn(1_000_001)
		if random.Intn(40) == 0 {
			time = []int{-1, 1_000_001, thrownNum(random)}[random.Intn(3)]
		}
		l = append(l, rec(thrownKey(random), thrownNum(random), time))
	}
	return l
}

func thrownHelds(random *rand.Rand) []api.Held {
	var l []api.Held
	for range thrownMany(random) {
		l = append(l, held(random.Intn(12), thrownKey(random), thrownNum(random), thrownNum(random)))
	}
	if random.Intn(4) > 0 {
		sort.SliceStable(l, func(i, j int) bool { return rises(l[i], l[j]) })
		l = slices.CompactFunc(l, func(a, b api.Held) bool { return !rises(a, b) })
	}
	if len(l) > 0 && random.Intn(20) == 0 {
		l[random.Intn(len(l))].Node = []int{-1, 12, thrownNum(random)}[random.Intn(3)]
	}
	return l
}

// spoiled are bytes with a few of them others, more, or fewer.
func spoiled(random *rand.Rand, b []byte) []byte {
	b = bytes.Clone(b)
	for range random.Intn(3) {
		at := random.Intn(len(b) + 1)
		switch random.Intn(4) {
		case 0:
			b = slices.Insert(b, at, []byte{0, 1, 2, 127, 128, 129, 130, 255}[random.Intn(8)])
		case 1:
			b = b[:at]
		case 2:
			if at < len(b) {
				b[at] ^= 1 << random.Intn(8)
			}
		case 3:
			if at < len(b) {
				b = slices.Delete(b, at, at+1)
			}
		}
	}
	return b
}

// thrownFault is ErrFull ahead of any other.
func thrownFault(many int, fault api.Errno) api.Errno {
	if many > 400 {
		return api.ErrFull
	}
	return fault
}

func TestNumBySecondWay(t *testing.T) {
	random := rand.New(rand.NewSource(1))
	for range 20_000 {
		n := thrownNum(random)
		wantBytes(t, frame.Num(n), secondNum(nil, n)...)
		wantRecords(t, []api.Record{rec("a", n, 1)}, secondRecords([]api.Record{rec("a", n, 1)})...)
	}
}

func TestRecordsBySecondWay(t *testing.T) {
	random := rand.New(rand.NewSource(2))
	seen := map[api.Errno]int{}
	for range 10_000 {
		l := thrownRecords(random)
		want, wrong := secondRecords(l), api.OK
		if _, none := secondReadRecords(want); none != api.OK {
			want, wrong = nil, thrownFault(len(l), api.ErrRange)
		}
		seen[wrong]++
		if b, err := frame.Records(l); !bytes.Equal(b, want) || plain.Told(err) != wrong {
			t.Fatalf("Records(%v) is %v, %v, want %v, %v", l, b, err, want, wrong)
		}
		b := spoiled(random, secondRecords(l))
		again, none := secondReadRecords(b)
		seen[none]++
		if got, err := frame.ReadRecords(b); !slices.Equal(got, again) || plain.Told(err) != none {
			t.Fatalf("ReadRecords(%v) is %v, %v, want %v, %v", b, got, err, again, none)
		}
	}
	if seen[api.OK] < 1000 || seen[api.ErrFull] < 50 || seen[api.ErrRange] < 50 || seen[api.ErrFile] < 1000 {
		t.Errorf("too few of an answer were thrown: %v", seen)
	}
}

func TestHeldsBySecondWay(t *testing.T) {
	random := rand.New(rand.NewSource(3))
	seen := map[api.Errno]int{}
	for range 10_000 {
		l := thrownHelds(random)
		wrong := thrownFault(len(l), secondFault(l))
		seen[wrong]++
		want := secondHelds(l)
		if wrong != api.OK {
			want = nil
		}
		if b, err := frame.Helds(l); !bytes.Equal(b, want) || plain.Told(err) != wrong {
			t.Fatalf("Helds(%v) is %v, %v, want %v, %v", l, b, err, want, wrong)
		}
		b := spoiled(random, secondHelds(l))
		again, none := secondReadHelds(b)
		seen[none]++
		if got, err := frame.ReadHelds(b); !slices.Equal(got, again) || plain.Told(err) != none {
			t.Fatalf("ReadHelds(%v) is %v, %v, want %v, %v", b, got, err, again, none)
		}
	}
	if seen[api.OK] < 1000 || seen[api.ErrFull] < 10 || seen[api.ErrRange] < 50 || seen[api.ErrOrder] < 50 || seen[api.ErrFile] < 1000 {
		t.Errorf("too few of an answer were thrown: %v", seen)
	}
}

// secondFault looks for the first state of each fault.
func secondFault(l []api.Held) api.Errno {
	first := func(is func(i int) bool) int {
		for i := range l {
			if is(i) {
				return i
			}
		}
		return len(l)
	}
	outside := first(func(i int) bool { return l[i].Node < 0 || l[i].Node > 11 || len(l[i].Key) > 40 })
	fallen := first(func(i int) bool { return i > 0 && !rises(l[i-1], l[i]) })
	switch {
	case fallen < outside:
		return api.ErrOrder
	case outside < len(l):
		return api.ErrRange
	}
	return api.OK
}

func TestOpenBySecondWay(t *testing.T) {
	random := rand.New(rand.NewSource(4))
	seen := map[api.Errno]int{}
	for range 10_000 {
		piece := make([]byte, random.Intn(70))
		random.Read(piece)
		sealed := frame.Seal(piece)
		b := spoiled(random, joined(sealed, make([]byte, random.Intn(8))))
		want, takes, wrong := secondOpen(b)
		seen[wrong]++
		got, size, err := frame.Open(b)
		if !bytes.Equal(got, want) || size != takes || plain.Told(err) != wrong {
			t.Fatalf("Open(%v) is %v, %d, %v, want %v, %d, %v", b, got, size, err, want, takes, wrong)
		}
	}
	if seen[api.OK] < 1000 || seen[api.ErrFile] < 1000 {
		t.Errorf("too few of an answer were thrown: %v", seen)
	}
}

// Bytes that no one wrote: what is read of them, if it is, is written so.
func TestReadOfAnyBytes(t *testing.T) {
	random := rand.New(rand.NewSource(7))
	read := 0
	for range 100_000 {
		b := make([]byte, random.Intn(12))
		for i := range b {
			b[i] = []byte{0, 2, 4, 6, 97, 1, 128, byte(random.Intn(256))}[random.Intn(8)]
		}
		l, wrong := secondReadRecords(b)
		if got, err := frame.ReadRecords(b); !slices.Equal(got, l) || plain.Told(err) != wrong {
			t.Fatalf("ReadRecords(%v) is %v, %v, want %v, %v", b, got, err, l, wrong)
		}
		h, none := secondReadHelds(b)
		if got, err := frame.ReadHelds(b); !slices.Equal(got, h) || plain.Told(err) != none {
			t.Fatalf("ReadHelds(%v) is %v, %v, want %v, %v", b, got, err, h, none)
		}
		if len(l) > 0 || len(h) > 0 {
			read++
		}
	}
	if read < 100 {
		t.Errorf("only %d were read", read)
	}
}
