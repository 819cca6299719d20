package expr

func (t *term) value(n, s int) int {
	switch t.op {
	case number:
		return t.num
	case 'n':
		return n
	case 's':
		return s
	case negative:
		return -t.parts[0].value(n, s)
	case '?':
		if t.parts[0].value(n, s) != 0 {
			return t.parts[1].value(n, s)
		}
		return t.parts[2].value(n, s)
	}
	return ofTwo(t.op, t.parts[0].value(n, s), t.parts[1].value(n, s))
}

func ofTwo(op byte, a, b int) int {
	switch op {
	case '=':
		return truth(a == b)
	case '<':
		return truth(a < b)
	case '>':
		return truth(a > b)
	case '+':
		return a + b
	case '-':
		return a - b
	case '*':
		return a * b
	case '/':
		return quotient(a, b)
	case '%':
		return rest(a, b)
	case least:
		return min(a, b)
	}
	return max(a, b)
}

func truth(holds bool) int {
	if holds {
		return 1
	}
	return 0
}

func quotient(a, b int) int {
	if b == 0 {
		return 0
	}
	return a / b
}

func rest(a, b int) int {
	if b == 0 {
		return 0
	}
	return a % b
}
