package run_test

import (
	"strings"
	"testing"
)

// Z1, words and numbers

// rows has a right line of each row, with an Engine that is there behind
// started.
func rows() []string {
	return []string{
		"node 3 0 0 n>1", "put 1 c 7 8", "check", "all", "start 2", "steps 4 1",
		"trigger", "crash 3", "written", "lag", "eval n+s 1 2", "owner 3 6",
	}
}

// started is a job with data and an Engine of which something is written: what
// `written` tells is doubled.
func started() []string {
	return with(doubling(), "start 2", allSteps, "trigger", allSteps)
}

// wantBad holds that a line is bad, with an Engine and without one, and that
// nothing comes of it.
func wantBad(t *testing.T, line string) {
	t.Helper()
	wantSession(t, line+" => bad", "check => ErrNone", "lag => ErrState", "node 1 - 1 - => 1")
	got := answers(t, with(started(), line, "written", "lag", "all", "start 3", "node 10 0 0 -")...)
	if at := len(started()); strings.Join(got[at:], "\n") != "bad\n"+doubled+"\n0\n"+doubled+"\nok\n4" {
		t.Errorf("behind %q the answers are %q", line, got[at:])
	}
}

func TestRightRows(t *testing.T) {
	for _, line := range rows() {
		if got := last(t, with(started(), line)...); got == "bad" || strings.HasPrefix(got, "Err") {
			t.Errorf("%q is answered %q", line, got)
		}
	}
}

func TestOneWordFewer(t *testing.T) {
	for _, line := range rows() {
		if at := strings.LastIndexByte(line, ' '); at >= 0 {
			wantBad(t, line[:at])
		}
		wantBad(t, line[strings.IndexByte(line, ' ')+1:]+"x")
	}
	for _, line := range []string{"node", "put", "start", "steps", "crash", "eval", "owner"} {
		wantBad(t, line)
	}
}

func TestOneWordMore(t *testing.T) {
	for _, line := range rows() {
		for _, word := range []string{"1", "x", "-", ""} {
			wantBad(t, line+" "+word)
		}
		first, rest, _ := strings.Cut(line, " ")
		wantBad(t, strings.TrimRight(first+" 1 "+rest, " ")+" 1")
	}
}

func TestBlanksAtEitherEnd(t *testing.T) {
	for _, line := range rows() {
		wantBad(t, " "+line)
		wantBad(t, line+" ")
		wantBad(t, " "+line+" ")
		wantBad(t, "\t"+line)
	}
}

// Only a blank ends a word: a TEXT and a KEY may have any other byte.
func TestOtherBytesOfTextsAndKeys(t *testing.T) {
	for _, word := range []string{"a\t", "\ta", "\r", "\x00", "é", "\xff\xfe", "a=1,2;b", "-", "--", "\u00a0", "\"", "\\n"} {
		wantSession(t, "node 1 - 1 - => 1", "node 10 0 0 - => 2", "put 0 "+word+" 7 0 => ok", "all => "+word+"=7")
		wantSession(t, "eval "+word+" 1 1 => ErrSyntax")
		wantSession(t, "node 1 - 1 - => 1", "node 2 0 0 "+word+" => 2", "node 10 1 0 - => 3", "check => ErrSyntax")
	}
	wantBad(t, "check\t")
	wantBad(t, "start 2\t")
}

// Between two words stands one blank, and nothing else.
func TestWhatStandsBetween(t *testing.T) {
	for _, line := range rows() {
		for _, between := range []string{"  ", "\t", " \t", "\u00a0", ",", ""} {
			if strings.Contains(line, " ") {
				wantBad(t, strings.ReplaceAll(line, " ", between))
			}
		}
	}
}

func TestOtherLines(t *testing.T) {
	for _, line := range []string{
		"", " ", "x", "0", "-", "ok", "bad", "too long", "ErrState",
		"Lag", "LAG", "lags", "la", "checks", "Check", "step 4 1", "write", "states", "done", "picture", "restore", "enabled", "apply",
		"map 0 n", "source 2", "//", "# lag", "lag;lag", "\xff", "lag\x00", "\x00", "１",
	} {
		wantBad(t, line)
	}
}

// An empty TEXT or KEY: two blanks follow each other, or one ends the line.
func TestEmptyTextsAndKeys(t *testing.T) {
	wantSession(t, "node 1 - 1  => 1", "node 10 0 0  => 2", "put 0  6 5 => ok", "put 0  7 0 => ok", "check => ok", "all => =6,7")
	wantSession(t, "node 1 - 1 - => 1", "node 2 0 0  => 2", "node 10 1 0 - => 3", "check => ErrSyntax")
	wantSession(t, "eval  1 2 => ErrSyntax")
	// one blank fewer is a word fewer
	wantBad(t, "node 1 - 1")
	wantBad(t, "put 0 6 5")
	wantBad(t, "eval 1 2")
	// and one more is a word more
	wantBad(t, "node 1 - 1  ")
	wantBad(t, "put 0   6 5")
	wantBad(t, "eval   1 2")
}

// No other word may be empty.
func TestOtherWordsAreNeverEmpty(t *testing.T) {
	for _, line := range []string{
		"node  0 0 n", "node 2  0 n", "node 2 0  n", "put  a 1 1", "put 0 a  1", "put 0 a 1 ", "start ", "steps  1", "steps 1 ",
		"crash ", "eval n  1", "eval n 1 ", "owner  1", "owner 1 ", "put 0  1 ", "node 1 - ",
	} {
		wantBad(t, line)
	}
}

// wrongNumbers are words that are no N.
func wrongNumbers() []string {
	return []string{
		"", "-", "-0", "--1", "+1", "+0", "01", "00", "-01", "-00", "0000000001", "1x", "x1", "x", "n", "1.0", "1.", ".1", "1e3", "0x1", "0b1", "0o1",
		"1_0", "1,0", "1,", ",", "1-", "1-1", "(1)", "1234567890", "-1234567890", "1000000000", "-1000000000", "9223372036854775807", "-9223372036854775808",
		"9223372036854775808", "99999999999999999999999999", "\x00", "1\x00", "١", "１", "∞", "1\t", "\t1", "1\r", "NaN", "true",
	}
}

// numberRows has for each N of a row a line in which a word takes its place.
func numberRows(word string) []string {
	return []string{
		"node " + word + " 0 0 -", "node 2 0 " + word + " n", "put " + word + " a 1 1", "put 0 a " + word + " 1", "put 0 a 1 " + word,
		"start " + word, "steps " + word + " 1", "steps 1 " + word, "crash " + word, "eval n " + word + " 1", "eval n 1 " + word,
		"owner " + word + " 1", "owner 1 " + word,
	}
}

func TestWrongNumbers(t *testing.T) {
	for _, word := range wrongNumbers() {
		for _, line := range numberRows(word) {
			wantBad(t, line)
		}
	}
}

func TestRightNumbers(t *testing.T) {
	for _, word := range []string{
		"0", "1", "9", "10", "-1", "-9", "-10", "100", "123456789", "-123456789", "999999999", "-999999999", "100000000", "-100000000",
	} {
		for _, line := range numberRows(word) {
			isPut := strings.HasPrefix(line, "put "+word+" ") && word != "0" && word != "1"
			if got := last(t, line); (got == "bad") != isPut {
				t.Errorf("%q is answered %q", line, got)
			}
		}
		wantSession(t, "eval n "+word+" 7 => "+word, "eval s 7 "+word+" => "+word)
		wantSession(t, "node 1 - 1 - => 1", "node 10 0 0 - => 2", "put 0 a "+word+" 0 => ok", "all => a="+word)
	}
}

func TestWrongNS(t *testing.T) {
	for _, word := range []string{
		"", ",", "0,", ",0", "0,,1", ",,", "-0", "0,-0", "-0,0", "00", "0,01", "--", "-,", ",-", "-,-", "0,-", "-,0", "0-1", "+1", "0,+1", "a", "0,a", "a,0",
		"0;1", "0.1", "1234567890", "0,1234567890", "0,1000000000", "-1000000000,0", "9223372036854775808", "0,\t1", "[0]", "0,1,2,3,",
	} {
		wantBad(t, "node 6 "+word+" 0 -")
	}
	wantBad(t, "node 6 0, 1 0 -")
	wantBad(t, "node 6 0 1 0 -")
	for _, word := range wrongNumbers() {
		if word != "-" && word != "1,0" {
			wantBad(t, "node 6 "+word+" 0 -")
			wantBad(t, "node 6 0,"+word+" 0 -")
			wantBad(t, "node 6 "+word+",0 0 -")
		}
	}
}

func TestRightNS(t *testing.T) {
	for _, word := range []string{"-", "0", "1", "-1", "0,1", "1,0", "0,0", "-1,-1", "0,1,2,3,4,5,6,7,8,9,10,11,12", "999999999,-999999999,0", strings.Repeat("0,", 1000) + "0"} {
		wantSession(t, "node 6 "+word+" 0 - => 1")
	}
	// what it says, in its order
	sources := []string{"node 1 - 1 -", "node 1 - 1 -", "put 0 a 1 0", "put 1 b 2 0"}
	for _, c := range [][2]string{
		{"0", "0:a=1"}, {"1", "0:b=2"}, {"0,1", "0:a=1 1:b=2"}, {"1,0", "0:b=2 1:a=1"}, {"1,1", "0:b=2 1:b=2"}, {"0,1,0", "0:a=1 1:b=2 2:a=1"},
		{"-", "ErrShape"}, {"0,0,0,0,0", "ErrShape"}, {"2", "ErrRange"}, {"0,-1", "ErrRange"}, {"0,999999999", "ErrRange"},
	} {
		wantLast(t, c[1], with(sources, "node 6 "+c[0]+" 0 -", "node 10 2 0 -", "all")...)
	}
}
