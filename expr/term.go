package expr

// term is an expression that was read.
type term struct {
	op    byte // its operator, or its name: see below
	num   int  // of a number
	parts []*term
}

// The op of a term is the byte that stands for it in a text, but where that
// byte stands for another one as well, or where there are several bytes.
const (
	number   = '0'
	negative = '~'
	least    = 'm'
	greatest = 'M'
)

// Ranks of terms: of two, the higher binds closer.
const (
	choice = iota
	compare
	sum
	product
	sign
	single
)

func rank(op byte) int {
	switch op {
	case '?':
		return choice
	case '=', '<', '>':
		return compare
	case '+', '-':
		return sum
	case '*', '/', '%':
		return product
	case negative:
		return sign
	}
	return single
}
