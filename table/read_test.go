package table_test

import (
	"bytes"
	"testing"

	"weirgate/api"
	"weirgate/frame"
)

// T1, bytes that Build does not give

func some() [][]api.Entry {
	return [][]api.Entry{
		nil,
		{{}},
		{put("a", "x")},
		{gone("a")},
		{put("a", "1"), gone("b"), put("cc", ""), put("d", long(70))},
		rising(0, 70),
	}
}

func TestNoBytesAreNoTable(t *testing.T) {
	wantNoTable(t, nil)
	wantNoTable(t, []byte{})
}

func TestCutOffIsNoTable(t *testing.T) {
	for _, l := range some() {
		b := built(t, l...)
		for end := range b {
			wantNoTable(t, b[:end])
			wantNoTable(t, bytes.Clone(b[:end]))
		}
		for begin := range b {
			wantNoTable(t, b[begin+1:])
		}
	}
}

func TestMoreBehindIsNoTable(t *testing.T) {
	for _, l := range some() {
		b := built(t, l...)
		for more := range 256 {
			wantNoTable(t, append(bytes.Clone(b), byte(more)))
		}
		wantNoTable(t, joined(b, b))
		wantNoTable(t, joined([]byte{0}, b))
	}
}

// Each change of one byte is told, wherever it stands.
func TestChangedByteIsNoTable(t *testing.T) {
	for _, l := range some() {
		b := built(t, l...)
		for i := range b {
			changes := []byte{1, 2, 3, 4, 6, 8, 16, 32, 64, 127, 128, 255}
			for _, change := range changes {
				b[i] ^= change
				wantNoTable(t, b)
				b[i] ^= change
			}
		}
		wantRead(t, b, l...)
	}
}

func TestAnyByteMoreOrLessIsNoTable(t *testing.T) {
	b := built(t, put("a", "1"), gone("b"), put("cc", "2"))
	for i := range b {
		wantNoTable(t, joined(b[:i], b[i+1:]))
		for more := range 256 {
			wantNoTable(t, joined(b[:i], []byte{byte(more)}, b[i:]))
		}
	}
}

// The forms below are sealed as tables are, so that only what they hold is
// wrong.
func TestForgedAsBuilt(t *testing.T) {
	for _, l := range some() {
		wantRead(t, forged(l...), l...)
	}
}

func TestWhatBuildRefusesIsNoTable(t *testing.T) {
	for _, l := range [][]api.Entry{
		{put(long(121), "x")},
		{put("a", long(121))},
		{gone(long(121))},
		{put("a", "x"), put("b", long(1000))},
		{bothWrong},
		{put("a", "x"), bothWrong, put("c", "x")},
		{put("a", "x"), put("a", "x")},
		{put("a", "x"), gone("a")},
		{put("b", "x"), put("a", "x")},
		{put("a", "x"), put("c", "x"), put("b", "x")},
		rising(0, 401),
		rising(0, 402),
		rising(0, 5000),
	} {
		wantNoTable(t, forged(l...))
	}
}

func TestWhatBuildDoesNotWriteIsNoTable(t *testing.T) {
	for _, piece := range [][]byte{
		{},
		{1},
		{2},
		{0, 0},
		{128, 0},
		{130, 0, 2, 97, 0, 0},
		unsealed(0, put("a", "x")),
		unsealed(2, put("a", "x")),
		unsealed(1, put("a", "x"), put("b", "x")),
		unsealed(-1, put("a", "x")),
		unsealed(low, put("a", "x")),
		unsealed(high, put("a", "x")),
		unsealed(401, rising(0, 400)...),
		append(unsealed(1, put("a", "x")), 0),
		joined(frame.Num(1), []byte{130, 0, 97, 0, 0}),
		joined(frame.Num(1), []byte{2, 97, 128, 0, 0}),
		joined(frame.Num(1), []byte{2, 97, 0, 128, 0}),
		joined(frame.Num(1), []byte{1, 0, 0}),
		joined(frame.Num(1), []byte{2, 97, 0, 1}),
		joined(frame.Num(1), []byte{2, 97, 0, 4, 97}),
		joined(frame.Num(1), frame.Num(high), []byte{0, 0}),
		joined(frame.Num(1), frame.Num(low), []byte{0, 0}),
	} {
		wantNoTable(t, frame.Seal(piece))
	}
	for _, dead := range []int{-1, -2, 2, 3, 256, 257, 1 << 32, low, low + 1, high} {
		wantNoTable(t, frame.Seal(joined(frame.Num(1), forgedEntry("a", dead, ""))))
		wantNoTable(t, frame.Seal(joined(frame.Num(1), forgedEntry("a", dead, "x"))))
		wantNoTable(t, frame.Seal(joined(frame.Num(2), forgedEntry("a", dead, ""), forgedEntry("b", 0, ""))))
	}
}

func TestNotSealedIsNoTable(t *testing.T) {
	for _, l := range some() {
		wantNoTable(t, unsealed(len(l), l...))
		wantNoTable(t, frame.Seal(forged(l...)))
		wantNoTable(t, joined(frame.Text(string(unsealed(len(l), l...)))))
	}
}

// What lies behind a list's length is not read.
func TestReadBehindTheLength(t *testing.T) {
	b := built(t, put("a", "x"), gone("b"))
	longer := append(bytes.Clone(b), b...)
	wantRead(t, longer[:len(b)], put("a", "x"), gone("b"))
	wantNoTable(t, longer[:len(b)-1])
	wantNoTable(t, longer[:0])
}
