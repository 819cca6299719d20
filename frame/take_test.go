package frame_test

import (
	"bytes"
	"slices"
	"testing"

	"weirgate/api"
	"weirgate/frame"
	"weirgate/plain"
)

// taken reads bytes as a count, so many texts, and a number.
func taken(b []byte) (texts []string, num int, err error) {
	err = frame.Take(b, func(from *frame.Reader) {
		for range from.Many() {
			texts = append(texts, from.Text())
		}
		num = from.Num()
	})
	return texts, num, err
}

func TestTake(t *testing.T) {
	b := joined(frame.Num(2), frame.Text("ab"), frame.Text(""), frame.Num(-700))
	before := bytes.Clone(b)
	texts, num, err := taken(b)
	if err != nil || !slices.Equal(texts, []string{"ab", ""}) || num != -700 || !bytes.Equal(b, before) {
		t.Errorf("Take(%v) is %q, %d, %v", before, texts, num, err)
	}
	most := joined(frame.Num(400), make([]byte, 400), frame.Num(1))
	if texts, num, err := taken(most); err != nil || len(texts) != 400 || num != 1 {
		t.Errorf("Take of MaxItems texts is %d of them, %d, %v", len(texts), num, err)
	}
	if err := frame.Take(nil, func(*frame.Reader) {}); err != nil {
		t.Errorf("Take of nothing is %v", err)
	}
}

func TestTakeOfOtherBytes(t *testing.T) {
	b := joined(frame.Num(2), frame.Text("ab"), frame.Text(""), frame.Num(-700))
	all := [][]byte{append(bytes.Clone(b), 0), frame.Num(-1), frame.Num(401), frame.Num(low), {2, 1, 0}, {2, 128, 0, 0}}
	for end := range b {
		all = append(all, b[:end])
	}
	all = append(all, joined(frame.Num(401), make([]byte, 401), frame.Num(1)))
	for _, wrong := range all {
		if _, _, err := taken(wrong); plain.Told(err) != api.ErrFile {
			t.Errorf("Take(%v) is %v, want ErrFile", wrong, err)
		}
	}
}

// Once it is bad, a Reader stays so, and gives nothing any more.
func TestTakeOfSpoiled(t *testing.T) {
	err := frame.Take([]byte{2, 2, 2, 97}, func(from *frame.Reader) {
		from.Num()
		from.Spoil()
		if n, many, s := from.Num(), from.Many(), from.Text(); n != 0 || many != 0 || s != "" {
			t.Errorf("what is taken of a spoiled one is %d, %d, %q", n, many, s)
		}
	})
	if plain.Told(err) != api.ErrFile {
		t.Errorf("Take is %v, want ErrFile", err)
	}
}
