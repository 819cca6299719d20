package run_test

import (
	"strings"
	"testing"

	"weirgate/run"
)

// allSteps does all steps that there are.
const allSteps = "steps 999999999 5"

// lines are such of a text, each ended.
func lines(all ...string) string {
	if len(all) == 0 {
		return ""
	}
	return strings.Join(all, "\n") + "\n"
}

// answers are those to the lines of a text, without the byte that ends each.
func answers(t *testing.T, all ...string) []string {
	t.Helper()
	told := run.Run(lines(all...))
	got := strings.Split(told, "\n")
	if len(got) != len(all)+1 || got[len(all)] != "" {
		t.Fatalf("%d lines are answered %q", len(all), told)
	}
	return got[:len(all)]
}

// last is the answer to the last line of a text.
func last(t *testing.T, all ...string) string {
	t.Helper()
	return answers(t, all...)[len(all)-1]
}

// wantSession holds lines that stand each ahead of its answer, with ` => `
// between.
func wantSession(t *testing.T, both ...string) {
	t.Helper()
	var asked, want []string
	for _, one := range both {
		line, answer, ok := strings.Cut(one, " => ")
		if !ok {
			t.Fatalf("%q has no answer", one)
		}
		asked, want = append(asked, line), append(want, answer)
	}
	for i, got := range answers(t, asked...) {
		if got != want[i] {
			t.Errorf("%q is answered %q, want %q, in %q", asked[i], got, want[i], asked)
		}
	}
}

// wantLast holds the answer to the last line of a text.
func wantLast(t *testing.T, want string, all ...string) {
	t.Helper()
	if got := last(t, all...); got != want {
		t.Errorf("%q is answered %q, want %q, in %q", all[len(all)-1], got, want, all)
	}
}

func wantText(t *testing.T, text, want string) {
	t.Helper()
	if got := run.Run(text); got != want {
		t.Errorf("%q is answered %q, want %q", short(text), short(got), short(want))
	}
}

// short is what a test says of a text, which may be a long one.
func short(text string) string { return text[:min(len(text), 200)] }

// with are lines with others behind them, in memory of their own.
func with(first []string, then ...string) []string {
	return append(append([]string(nil), first...), then...)
}

// doubling is a right job with data: what its only Sink gets is told by
// `all` as doubled.
func doubling() []string {
	return []string{"node 1 - 2 -", "node 2 0 0 n*2", "node 10 1 0 -", "put 0 b 4 0", "put 0 a 1 5", "put 0 b 3 9"}
}

const doubled = "a=2 b=8,6"
