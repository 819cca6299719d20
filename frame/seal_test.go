package frame_test

import (
	"bytes"
	"testing"

	"weirgate/api"
	"weirgate/frame"
	"weirgate/plain"
)

// wantOpen holds what the first piece of bytes has.
func wantOpen(t *testing.T, b []byte, want []byte, takes int) {
	t.Helper()
	got, size, err := frame.Open(b)
	if err != nil || size != takes || !bytes.Equal(got, want) {
		t.Errorf("Open(%v) is %v, %d, %v, want %v, %d", b, got, size, err, want, takes)
	}
}

func wantClosed(t *testing.T, b []byte) {
	t.Helper()
	if got, size, err := frame.Open(b); got != nil || size != 0 || plain.Told(err) != api.ErrFile {
		t.Errorf("Open(%v) is %v, %d, %v, want nothing, 0, ErrFile", b, got, size, err)
	}
}

// pieces are such that have something to tell of: none, zeros, great bytes,
// lengths at which one number more is needed.
func pieces() [][]byte {
	return [][]byte{
		nil, {0}, {1}, {97}, {255}, {128, 129}, {0, 0, 0}, []byte("weirgate"), {171, 147, 77, 218, 54, 89, 243},
		bytes.Repeat([]byte{200}, 63), bytes.Repeat([]byte{200}, 64), bytes.Repeat([]byte{1, 0, 255}, 100),
		bytes.Repeat([]byte{254}, 8191), bytes.Repeat([]byte{254}, 8192),
	}
}

// F2

func TestSeal(t *testing.T) {
	wantBytes(t, frame.Seal(nil), 0, 1, 0, 0, 0)
	wantBytes(t, frame.Seal([]byte{}), 0, 1, 0, 0, 0)
	wantBytes(t, frame.Seal([]byte{0}), 2, 0, 31, 0, 0, 0)
	wantBytes(t, frame.Seal([]byte{1}), 2, 1, 32, 0, 0, 0)
	wantBytes(t, frame.Seal([]byte{128}), 2, 128, 159, 0, 0, 0)
	wantBytes(t, frame.Seal([]byte{255}), 2, 255, 30, 1, 0, 0)
	wantBytes(t, frame.Seal([]byte{0, 1}), 4, 0, 1, 194, 3, 0, 0)
	wantBytes(t, frame.Seal([]byte{1, 0}), 4, 1, 0, 224, 3, 0, 0)
	wantBytes(t, frame.Seal([]byte{2, 2, 2, 99, 6, 0}), 12, 2, 2, 2, 99, 6, 0, 156, 120, 110, 56)
	wantBytes(t, frame.Seal([]byte{252, 156, 68, 56, 111, 198, 2, 0, 242, 13, 109, 108, 232, 172}),
		28, 252, 156, 68, 56, 111, 198, 2, 0, 242, 13, 109, 108, 232, 172, 72, 88, 164, 171)
}

// secondSum goes the long way, by remainders.
func secondSum(b []byte) []byte {
	x := 1
	for _, c := range b {
		x = (x*31 + int(c)) % (1 << 32)
	}
	return []byte{byte(x % 256), byte(x / 256 % 256), byte(x / 65_536 % 256), byte(x / 16_777_216)}
}

func TestSealAndOpen(t *testing.T) {
	for _, b := range pieces() {
		sealed := frame.Seal(b)
		wantBytes(t, sealed, joined(frame.Num(len(b)), b, secondSum(b))...)
		wantOpen(t, sealed, b, len(sealed))
		for _, more := range [][]byte{{0}, {255}, {1, 2, 3, 4, 5, 6}, sealed, bytes.Repeat([]byte{128}, 30)} {
			wantOpen(t, joined(sealed, more), b, len(sealed))
		}
	}
}

func TestOpenOneBehindTheOther(t *testing.T) {
	var all []byte
	for _, b := range pieces() {
		all = append(all, frame.Seal(b)...)
	}
	for _, want := range pieces() {
		b, size, err := frame.Open(all)
		if err != nil || !bytes.Equal(b, want) || size != len(frame.Seal(want)) {
			t.Fatalf("Open is %v, %d, %v, want %v", b, size, err, want)
		}
		all = all[size:]
	}
	if len(all) != 0 {
		t.Errorf("%d bytes are left", len(all))
	}
	wantClosed(t, all)
}

// A piece in a piece, and what chapter 5 writes, sealed.
func TestOpenOfPieceInPiece(t *testing.T) {
	inner := frame.Seal(written(rec("a", 1, 2)))
	outer := frame.Seal(inner)
	wantOpen(t, outer, inner, len(outer))
	wantOpen(t, inner, written(rec("a", 1, 2)), len(inner))
}

func TestOpenOfCutOff(t *testing.T) {
	wantClosed(t, nil)
	wantClosed(t, []byte{})
	for _, b := range pieces() {
		sealed := frame.Seal(b)
		for end := range sealed {
			// cut off with all that lies behind in the same memory, and without
			wantClosed(t, sealed[:end])
			wantClosed(t, bytes.Clone(sealed[:end]))
		}
	}
}

func TestOpenOfChangedBytes(t *testing.T) {
	for _, b := range pieces()[:11] {
		sealed := frame.Seal(b)
		for at := range sealed {
			for by := 1; by < 256; by++ {
				changed := bytes.Clone(sealed)
				changed[at] += byte(by)
				wantClosed(t, changed)
			}
		}
	}
}

func TestOpenOfIllLengths(t *testing.T) {
	b := []byte("weirgate")
	behind := joined(b, secondSum(b))
	wantOpen(t, joined(frame.Num(8), behind), b, 13)
	for _, many := range []int{-1, -2, -4, -5, -8, -13, low, low + 1, low + 13, 7, 9, 12, 13, 1 << 31, 1 << 32, 1<<32 + 8, 1 << 62, high - 16, high - 4, high - 1, high} {
		wantClosed(t, joined(frame.Num(many), behind))
	}
	for _, num := range ill() {
		wantClosed(t, num)
		wantClosed(t, joined(num, behind))
		wantClosed(t, joined(num, secondSum(nil)))
	}
	// 8, and none, with more bytes than they need
	wantClosed(t, joined([]byte{144, 0}, behind))
	wantClosed(t, joined([]byte{144, 128, 0}, behind))
	wantClosed(t, joined([]byte{128, 0}, secondSum(nil)))
	wantClosed(t, joined([]byte{144, 128, 128, 128, 128, 128, 128, 128, 128, 2}, behind))
}

// What is handed in is neither changed nor kept, what comes out is fresh.
func TestSealAndOpenAreFresh(t *testing.T) {
	all := []byte{5, 6, 7, 8, 9, 10, 11, 12, 13, 14, 15, 16}
	b := all[:3]
	sealed := frame.Seal(b)
	wantBytes(t, all, 5, 6, 7, 8, 9, 10, 11, 12, 13, 14, 15, 16)
	before := bytes.Clone(sealed)
	memory := joined(sealed, []byte{1, 2, 3})
	opened, size, err := frame.Open(memory[:len(sealed)])
	if err != nil || size != len(sealed) {
		t.Errorf("Open is %v, %d, %v", opened, size, err)
	}
	wantBytes(t, memory, joined(before, []byte{1, 2, 3})...)
	fill(b)
	wantBytes(t, sealed, before...)
	fill(memory)
	wantBytes(t, opened, 5, 6, 7)
	fill(opened)
	wantBytes(t, sealed, before...)
	wantBytes(t, memory, bytes.Repeat([]byte{99}, len(memory))...)
	wantOpen(t, sealed, []byte{5, 6, 7}, len(sealed))
}

// An empty piece that is opened must not hand out where it lay.
func TestOpenOfNothingIsFresh(t *testing.T) {
	sealed := joined(frame.Seal(nil), []byte{1, 2, 3})
	opened, _, err := frame.Open(sealed)
	if err != nil {
		t.Fatal(err)
	}
	fill(opened)
	_ = append(opened, 88)
	wantBytes(t, sealed, 0, 1, 0, 0, 0, 1, 2, 3)
}
