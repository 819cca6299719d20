package frame

// sumBytes is how many bytes a sum takes.
const sumBytes = 4

// withNum is b with a number behind. Twice a great number wraps round, but to
// the bits that are right where they are taken as those of a uint64.
func withNum(b []byte, n int) []byte {
	x := uint64(2 * n)
	if n < 0 {
		x = uint64(-2*n - 1)
	}
	for x >= 128 {
		b = append(b, byte(x)|128)
		x >>= 7
	}
	return append(b, byte(x))
}

func withText(b []byte, s string) []byte {
	return append(withNum(b, len(s)), s...)
}

// sum is modulo 2^32, which is just how a uint32 wraps round.
func sum(b []byte) []byte {
	x := uint32(1)
	for _, c := range b {
		x = x*31 + uint32(c)
	}
	var told []byte
	for i := range sumBytes {
		told = append(told, byte(x>>(8*i)))
	}
	return told
}
