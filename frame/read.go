package frame

import (
	"weirgate/api"
)

// numBytes is how many bytes a number takes at most.
const numBytes = 10

// firstNum is the number that bytes begin with, and how many of them it takes:
// none, if they begin with no number as Num writes it.
func firstNum(b []byte) (n, size int) {
	x := uint64(0)
	for i := range min(len(b), numBytes) {
		x |= uint64(b[i]&127) << (7 * i)
		if b[i] >= 128 {
			continue
		}
		needless := i > 0 && b[i] == 0
		tooGreat := i == numBytes-1 && b[i] > 1 // one bit of 64 is left for the last
		if needless || tooGreat {
			return 0, 0
		}
		return ofBits(x), i + 1
	}
	return 0, 0
}

// ofBits is the number that withNum writes as these bits.
func ofBits(x uint64) int {
	half := int(x / 2)
	if x%2 == 1 {
		return -half - 1
	}
	return half
}

// Reader takes what was written from the front of bytes. Once they are not
// such, it is bad, and gives only 0 and "": so it is asked but once, at the
// end.
type Reader struct {
	rest []byte
	bad  bool
}

// Take reads bytes by a function, for as long as that runs. ErrFile: they are
// not just what it took.
func Take(b []byte, read func(from *Reader)) error {
	from := Reader{rest: b}
	read(&from)
	if !from.ended() {
		return api.ErrFile
	}
	return nil
}

// Spoil tells that what was taken is none that was written.
func (from *Reader) Spoil() {
	from.rest, from.bad = nil, true
}

// ended tells whether all was right, and nothing is left.
func (from *Reader) ended() bool {
	return !from.bad && len(from.rest) == 0
}

// Num takes a number.
func (from *Reader) Num() int {
	n, size := firstNum(from.rest)
	if size == 0 {
		from.Spoil()
	}
	from.rest = from.rest[size:]
	return n
}

// Text takes a text.
func (from *Reader) Text() string {
	many := from.Num()
	if many < 0 || many > len(from.rest) {
		from.Spoil()
		return ""
	}
	s := string(from.rest[:many])
	from.rest = from.rest[many:]
	return s
}

// Many takes how many items are told to follow: bounded, since nothing else
// tells yet whether they do.
func (from *Reader) Many() int {
	n := from.Num()
	if n < 0 || n > api.MaxItems {
		from.Spoil()
		return 0
	}
	return n
}

func (from *Reader) record() api.Record {
	key := from.Text()
	num := from.Num()
	time := from.Num()
	return api.Record{Key: key, Num: num, Time: time}
}

func (from *Reader) held() api.Held {
	node := from.Num()
	key := from.Text()
	a := from.Num()
	b := from.Num()
	return api.Held{Node: node, Key: key, A: a, B: b}
}
