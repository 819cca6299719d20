package expr

import "strconv"

// appendTerm writes a term where one of this rank, or a higher one, may stand.
func appendTerm(out []byte, t *term, lowest int) []byte {
	if rank(t.op) < lowest {
		out = append(out, '(')
		out = appendTerm(out, t, choice)
		return append(out, ')')
	}
	switch rank(t.op) {
	case choice:
		out = appendTerm(out, t.parts[0], compare)
		out = append(out, '?')
		out = appendTerm(out, t.parts[1], choice)
		out = append(out, ':')
		return appendTerm(out, t.parts[2], choice)
	case compare:
		return appendBoth(out, t, sum, sum)
	case sum:
		return appendBoth(out, t, sum, product)
	case product:
		return appendBoth(out, t, product, sign)
	case sign:
		return appendTerm(append(out, '-'), t.parts[0], sign)
	}
	return appendSingle(out, t)
}

func appendBoth(out []byte, t *term, left, right int) []byte {
	out = appendTerm(out, t.parts[0], left)
	out = append(out, t.op)
	return appendTerm(out, t.parts[1], right)
}

func appendSingle(out []byte, t *term) []byte {
	switch t.op {
	case number:
		return strconv.AppendInt(out, int64(t.num), 10)
	case least:
		return appendPair(append(out, "min"...), t)
	case greatest:
		return appendPair(append(out, "max"...), t)
	}
	return append(out, t.op)
}

func appendPair(out []byte, t *term) []byte {
	out = append(out, '(')
	out = appendTerm(out, t.parts[0], choice)
	out = append(out, ',')
	out = appendTerm(out, t.parts[1], choice)
	return append(out, ')')
}
