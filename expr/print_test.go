package expr

import "testing"

// full writes a term with a bracket around each part, so that two are alike
// only if the same operators have the same operands.
func full(t *term) string {
	out := string(t.op) + "["
	if t.op == number {
		out += string(appendSingle(nil, t))
	}
	for _, part := range t.parts {
		out += full(part)
	}
	return out + "]"
}

// bracketed are texts of all operators, with a text within them at each place,
// in brackets.
func bracketed(within []string) []string {
	var out []string
	for _, w := range within {
		w = "(" + w + ")"
		for _, op := range []string{"=", "<", ">", "+", "-", "*", "/", "%"} {
			out = append(out, w+op+"n", "n"+op+w)
		}
		for _, call := range []string{"min(", "max("} {
			out = append(out, call+w+",n)", call+"n,"+w+")")
		}
		out = append(out, "-"+w, w+"?n:n", "n?"+w+":n", "n?n:"+w)
	}
	return out
}

// without are the texts that come of taking one pair of brackets away.
func without(text string) []string {
	var out []string
	var open []int
	for i := range text {
		switch text[i] {
		case '(':
			open = append(open, i)
		case ')':
			from := open[len(open)-1]
			open = open[:len(open)-1]
			out = append(out, text[:from]+text[from+1:i]+text[i+1:])
		}
	}
	return out
}

func wantShortest(t *testing.T, text string) {
	t.Helper()
	before, _, err := read(text)
	if err != nil {
		t.Fatalf("%q is none: %v", text, err)
	}
	out, err := Print(text)
	if err != nil {
		t.Fatalf("Print(%q): %v", text, err)
	}
	after, _, err := read(out)
	if err != nil || full(after) != full(before) {
		t.Fatalf("Print(%q) is %q, which is another one (%v)", text, out, err)
	}
	for _, less := range without(out) {
		if other, _, err := read(less); err == nil && full(other) == full(before) {
			t.Errorf("Print(%q) is %q, but %q is the same", text, out, less)
		}
	}
	if again, err := Print(out); again != out || err != nil {
		t.Errorf("Print(%q) is %q, %v", out, again, err)
	}
	for _, n := range []int{-3, 0, 1, 7} {
		a, _ := Eval(text, n, 5)
		b, err := Eval(out, n, 5)
		if a != b || err != nil {
			t.Errorf("%q comes to %d, %q to %d, %v", text, a, out, b, err)
		}
	}
}

// Each operator within each other one within each other one, at each place.
func TestPrintShortest(t *testing.T) {
	texts := []string{"s", "10"}
	for range 3 {
		texts = bracketed(texts)
		for _, text := range texts {
			wantShortest(t, text)
		}
	}
}
