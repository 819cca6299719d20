package run_test

import (
	"strings"
	"testing"

	"weirgate/api"
	"weirgate/run"
)

// Z1, the text

func TestLongestText(t *testing.T) {
	asked := strings.Repeat("lag\n", api.MaxRun/4)
	if len(asked) != 3000 {
		t.Fatalf("the longest text has %d bytes", len(asked))
	}
	wantText(t, asked, strings.Repeat("ErrState\n", api.MaxRun/4))
	wantText(t, asked[:2999], strings.Repeat("ErrState\n", api.MaxRun/4))
	wantText(t, strings.Repeat("\n", api.MaxRun), strings.Repeat("bad\n", api.MaxRun))
	wantText(t, strings.Repeat("x", api.MaxRun), "bad\n")
	wantText(t, strings.Repeat(" ", api.MaxRun-1)+"\n", "bad\n")
}

func TestTooLongText(t *testing.T) {
	for _, text := range []string{
		strings.Repeat("lag\n", api.MaxRun/4) + "\n",
		strings.Repeat("lag\n", api.MaxRun/4) + "l",
		strings.Repeat("\n", api.MaxRun+1),
		strings.Repeat("x", api.MaxRun+1),
		strings.Repeat("\x00", 100*api.MaxRun),
		"check\n" + strings.Repeat("é", api.MaxRun/2),
	} {
		wantText(t, text, "too long\n")
	}
}

// Bytes are counted, not what they spell.
func TestBytesOfTextAreCounted(t *testing.T) {
	wantText(t, strings.Repeat("é", api.MaxRun/2), "bad\n")
	wantText(t, strings.Repeat("é", api.MaxRun/2)+"\n", "too long\n")
}

func TestNoText(t *testing.T) {
	wantText(t, "", "")
}

func TestLastPiece(t *testing.T) {
	wantText(t, "check\n", "ErrNone\n")
	wantText(t, "check", "ErrNone\n")
	wantText(t, "lag\ncheck\n", "ErrState\nErrNone\n")
	wantText(t, "lag\ncheck", "ErrState\nErrNone\n")
	wantText(t, "lag\nx", "ErrState\nbad\n")
	wantText(t, "lag\n ", "ErrState\nbad\n")
}

func TestEmptyLines(t *testing.T) {
	wantText(t, "\n", "bad\n")
	wantText(t, "\n\n", "bad\nbad\n")
	wantText(t, "\nlag", "bad\nErrState\n")
	wantText(t, "\nlag\n\n", "bad\nErrState\nbad\n")
	wantText(t, "lag\n\n\ncheck\n", "ErrState\nbad\nbad\nErrNone\n")
}

// Only byte 10 cuts.
func TestOtherEndsOfLines(t *testing.T) {
	for _, text := range []string{"lag\r", "lag\x00", "lag\v", "lag\f", "lag\u0085", "lag\u2028", "lag\rlag", "\rlag", "\ufefflag"} {
		wantText(t, text, "bad\n")
		wantText(t, text+"\n", "bad\n")
		wantText(t, "lag\n"+text+"\nlag", "ErrState\nbad\nErrState\n")
	}
	wantText(t, "lag\r\nlag\r\n", "bad\nbad\n")
}

// Each line has one answer, ended, whatever it is.
func TestOneAnswerALine(t *testing.T) {
	asked := with(doubling(), "check", "all", "start 3", allSteps, "trigger", allSteps, "written", "lag", "crash 2", "eval n 1 1", "owner 3 6", "", "x", "start 0")
	for many := range len(asked) + 1 {
		text := lines(asked[:many]...)
		if got := run.Run(text); strings.Count(got, "\n") != many || many > 0 && !strings.HasSuffix(got, "\n") {
			t.Errorf("%d lines are answered %q", many, got)
		}
		if many > 0 && asked[many-1] != "" {
			wantText(t, strings.TrimSuffix(text, "\n"), run.Run(text))
		}
	}
}

// A text begins anew: what another one came to does not matter.
func TestTextsAreApart(t *testing.T) {
	whole := lines(with(doubling(), "start 2", allSteps, "trigger", allSteps, "written")...)
	want := run.Run(whole)
	wantText(t, lines("check", "all", "lag", "node 1 - 1 -"), "ErrNone\nErrNone\nErrState\n1\n")
	wantText(t, whole, want)
}
