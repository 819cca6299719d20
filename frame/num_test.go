package frame_test

import (
	"bytes"
	"math"
	"strings"
	"testing"

	"weirgate/frame"
)

const low, high = math.MinInt, math.MaxInt

func wantBytes(t *testing.T, got []byte, want ...byte) {
	t.Helper()
	if !bytes.Equal(got, want) {
		t.Errorf("the bytes are %v, want %v", got, want)
	}
}

// joined are pieces in one list.
func joined(pieces ...[]byte) []byte { return bytes.Join(pieces, nil) }

// F1, numbers and texts

func TestNum(t *testing.T) {
	for _, c := range []struct {
		n    int
		want []byte
	}{
		{0, []byte{0}}, {1, []byte{2}}, {-1, []byte{1}}, {2, []byte{4}}, {-2, []byte{3}},
		{63, []byte{126}}, {-64, []byte{127}},
		{64, []byte{128, 1}}, {-65, []byte{129, 1}},
		{150, []byte{172, 2}}, {-150, []byte{171, 2}},
		{8191, []byte{254, 127}}, {-8192, []byte{255, 127}},
		{8192, []byte{128, 128, 1}}, {-8193, []byte{129, 128, 1}},
		{1 << 62, []byte{128, 128, 128, 128, 128, 128, 128, 128, 128, 1}},
		{-1 << 62, []byte{255, 255, 255, 255, 255, 255, 255, 255, 127}},
		{high, []byte{254, 255, 255, 255, 255, 255, 255, 255, 255, 1}},
		{low + 1, []byte{253, 255, 255, 255, 255, 255, 255, 255, 255, 1}},
		{low, []byte{255, 255, 255, 255, 255, 255, 255, 255, 255, 1}},
	} {
		wantBytes(t, frame.Num(c.n), c.want...)
	}
}

// Each seven bits more take a byte more, on both sides of 0.
func TestNumSizes(t *testing.T) {
	for size := 1; size <= 9; size++ {
		edge := 1 << (7*size - 1)
		for _, c := range []struct{ n, size int }{{edge - 1, size}, {-edge, size}, {edge, size + 1}, {-edge - 1, size + 1}} {
			b := frame.Num(c.n)
			if len(b) != c.size {
				t.Errorf("Num(%d) is %v, want %d bytes", c.n, b, c.size)
			}
			for i, x := range b {
				if (x >= 128) != (i < len(b)-1) {
					t.Errorf("Num(%d) is %v: byte %d", c.n, b, i)
				}
			}
		}
	}
}

func TestText(t *testing.T) {
	wantBytes(t, frame.Text(""), 0)
	wantBytes(t, frame.Text("a"), 2, 'a')
	wantBytes(t, frame.Text("\x00"), 2, 0)
	wantBytes(t, frame.Text("\x80\xff"), 4, 128, 255)
	wantBytes(t, frame.Text("é"), 4, 195, 169)
	text := strings.Repeat("x\x80", 32)
	wantBytes(t, frame.Text(text[:63]), append([]byte{126}, text[:63]...)...)
	wantBytes(t, frame.Text(text), append([]byte{128, 1}, text...)...)
	long := strings.Repeat("\xff", 100_000)
	wantBytes(t, frame.Text(long), append(frame.Num(100_000), long...)...)
}

// What comes out is the caller's.
func TestNumAndTextAreFresh(t *testing.T) {
	for _, call := range []func() []byte{
		func() []byte { return frame.Num(1) },
		func() []byte { return frame.Num(high) },
		func() []byte { return frame.Text("") },
		func() []byte { return frame.Text("abc") },
		func() []byte { return frame.Seal(nil) },
	} {
		first := call()
		want := bytes.Clone(first)
		fill(first)
		wantBytes(t, call(), want...)
	}
}

// fill writes over a list and all that lies behind it in its memory.
func fill(b []byte) {
	b = b[:cap(b)]
	for i := range b {
		b[i] = 99
	}
}
