package job_test

import (
	"reflect"
	"strings"
	"testing"

	"weirgate/api"
	"weirgate/job"
	"weirgate/plain"
)

// wantLine holds Parse against what is wrong with a text, and in which line.
func wantLine(t *testing.T, text string, line int, want api.Errno) {
	t.Helper()
	if l, at, err := job.Parse(text); len(l) != 0 || at != line || plain.Told(err) != want {
		t.Errorf("Parse(%q) is %v, %d, %v, want nothing, %d, %v", text, l, at, err, line, want)
	}
}

// wantBothWays holds Print and Parse of a job and its text against each other.
func wantBothWays(t *testing.T, l []api.Node, text string) {
	t.Helper()
	if got, err := job.Print(l); got != text || err != nil {
		t.Errorf("Print(%v) is %q, %v, want %q", l, got, err, text)
	}
	got, at, err := job.Parse(text)
	if !reflect.DeepEqual(got, l) || at != 0 || err != nil {
		t.Errorf("Parse(%q) is %v, %d, %v, want %v", text, got, at, err, l)
	}
}

// J2

func TestEachKindBothWays(t *testing.T) {
	wantBothWays(t, everyKind(), "source 3\nmap 0 n*2\nfilter 1 n>3\nsub 0 n%10\ncopy 3 2\nunion 2 4\nfold 5 s+n\nevery 5 7\nfirst 6\nsink 8\n")
	wantBothWays(t, sourcesAndSink(3), "source 1\nsource 1\nsink 0\n")
	wantBothWays(t, sourcesAndSink(12), strings.Repeat("source 1\n", 11)+"sink 0\n")
	for _, c := range []struct {
		one  api.Node
		line string
	}{
		{source(1), "source 1"},
		{source(8), "source 8"},
		{node(api.Copy, "", 0, 0), "copy 0 0"},
		{node(api.Copy, "", 3, 0), "copy 0 3"},
		{node(api.Every, "", 1, 0), "every 0 1"},
		{node(api.Every, "", 400, 0), "every 0 400"},
		{node(api.Union, "", 0, 0), "union 0"},
		{node(api.Union, "", 0, 0, 0, 0, 0), "union 0 0 0 0"},
		{node(api.Map, "((n))", 0, 0), "map 0 ((n))"},
		{node(api.Filter, "0", 0, 0), "filter 0 0"},
		{node(api.Sub, "min(n,s)", 0, 0), "sub 0 min(n,s)"},
		{node(api.Fold, "n?1:-1", 0, 0), "fold 0 n?1:-1"},
		{node(api.First, "", 0, 0), "first 0"},
		{sink(0), "sink 0"},
	} {
		wantBothWays(t, behindSource(c.one), "source 1\n"+c.line+"\nsink 0\n")
	}
}

func TestPrintFromOfTwoDigits(t *testing.T) {
	l := append(sourcesAndSink(12)[:11], sink(10))
	wantBothWays(t, l, strings.Repeat("source 1\n", 11)+"sink 10\n")
}

// Lines that are none, each of them where the second of three would be.
func TestParseNoLine(t *testing.T) {
	lines := strings.Split("|foo|0|maps 0 n|ma 0 n|Map 0 n|map0 n|mapn 0|sinks 0|"+ // the kind
		" |  |map  0 n|map 0  n|copy 0  1|union 0  0|union  0|first  0|source  1|map\t0\tn|\tfirst 0|"+ // the blanks
		" first 0|first 0 |first 0  |source 1 |union |union 0 |map 0 n | map 0 n|copy 0 1 |map |first |copy 0 |every 0 |source |"+ // at an end
		"source|map|filter|sub|fold|copy|every|first|sink|map 0|filter 0|sub 0|fold 0|copy 0|every 0|map n|"+ // too few
		"source 0 1|source 1 1|source 1 n|map 0 0 n|map 0 n n|map 0 n +1|filter 0 0 n|sub 0 0 n|fold 0 0 n|"+ // too many
		"copy 0 0 1|every 0 0 1|first 0 0|sink 0 0|first 0 n|sink 0 n|union n|union 0 n|union 0 0 0 0 0 n|"+
		"source 1000|source 0001|first 1000|first 0000|every 0 1000|every 0 0400|union 0 0 1000|copy 1000 1|map 1000 n|"+ // four digits
		"source 01|source 00|first 00|first 01|sink 000|every 0 01|every 0 00|copy 0 00|union 00|union 0 01|map 00 n|"+ // a needless 0
		"source x|source -1|source +1|source 1.|source 0x1|source 1_0|first -0|first -1|every 0 -1|copy 0 +1|union -1|map -1 n|map n 0|"+
		"source \xb2|source 99999999999999999999|first 18446744073709551616|every 0 9223372036854775808|"+
		"source 1\r|first 0\r|map 9 n n|map 9  |map  |map 0 n  |filter  9|every 0 1\x00", "|")
	for _, line := range lines {
		wantLine(t, "source 1\n"+line+"\nsink 0\n", 1, api.ErrSyntax)
		wantLine(t, line+"\nsource 1\nsink 0\n", 0, api.ErrSyntax)
		wantLine(t, "source 1\nsink 0\n"+line+"\n", 2, api.ErrSyntax)
	}
}

// A line that ends in a blank has an empty Text: it is a line, and what is
// wrong with it is told in the order of any other.
func TestParseEmptyText(t *testing.T) {
	twelve := strings.Repeat("source 1\n", 11) + "sink 0\n"
	for _, kind := range []string{"map", "filter", "sub", "fold"} {
		wantLine(t, "source 1\n"+kind+" 0 \nsink 1\n", 1, api.ErrSyntax)
		wantLine(t, "source 1\nfirst 0\n"+kind+" 1 \nfoo\n", 2, api.ErrSyntax)
		wantLine(t, kind+" 0 \nsource 1\nsink 0\n", 0, api.ErrRange)
		wantLine(t, "source 1\n"+kind+" 1 \nsink 0\n", 1, api.ErrRange)
		wantLine(t, "source 1\n"+kind+" 5 \nsink 1\n", 1, api.ErrRange)
		wantLine(t, "source 1\n"+kind+" 999 \nsink 1\n", 1, api.ErrRange)
		wantLine(t, "source 1\nsink 0\n"+kind+" 1 \n", 2, api.ErrState)
		wantLine(t, "source 1\nsink 0\n"+kind+" 2 \n", 2, api.ErrRange)
		wantLine(t, twelve+kind+" 0 \n", 12, api.ErrFull)
		wantLine(t, twelve+kind+" 11 \n", 12, api.ErrFull)
		wantLine(t, twelve+kind+" 99 \n", 12, api.ErrFull)
		for _, none := range []string{" 5", " ", "  ", " 5  ", "  5", " 05 ", " 1000 ", " -1 ", " n ", " 5\t"} {
			wantLine(t, "source 1\n"+kind+none+"\nsink 0\n", 1, api.ErrSyntax)
			wantLine(t, twelve+kind+none+"\n", 12, api.ErrSyntax)
		}
		wantLine(t, "source 1\n"+kind+" 5 ", 1, api.ErrSyntax)
		wantLine(t, "source 1\nsink 0\n"+kind+" 1 ", 2, api.ErrSyntax)
		wantLine(t, twelve+kind+" 0 ", 12, api.ErrSyntax)
	}
}

func TestParseLastLineMustEnd(t *testing.T) {
	wantLine(t, "source 1\nsink 0", 1, api.ErrSyntax)
	wantLine(t, "source 1", 0, api.ErrSyntax)
	wantLine(t, "source 9", 0, api.ErrSyntax)
	wantLine(t, "x", 0, api.ErrSyntax)
	wantLine(t, "source 1\nsink 0\n ", 2, api.ErrSyntax)
	wantLine(t, "source 1\nsink 0\nsink 1", 2, api.ErrSyntax)
	wantLine(t, "source 1\nmap 0 n", 1, api.ErrSyntax)
	wantLine(t, strings.Repeat("source 1\n", 12)+"sink 0", 12, api.ErrSyntax)
}

func TestParseThirteenthLine(t *testing.T) {
	twelve := strings.Repeat("source 1\n", 11) + "sink 0\n"
	wantLine(t, twelve+"sink 0\n", 12, api.ErrFull)
	wantLine(t, twelve+"source 9\n", 12, api.ErrFull)
	wantLine(t, twelve+"sink 11\n", 12, api.ErrFull)
	wantLine(t, twelve+"sink 0\nfoo\n", 12, api.ErrFull)
	wantLine(t, twelve+strings.Repeat("sink 0\n", 1000), 12, api.ErrFull)
	wantLine(t, strings.Repeat("source 1\n", 13), 12, api.ErrFull)
	wantLine(t, twelve+"foo\n", 12, api.ErrSyntax)
	wantLine(t, twelve+"\n", 12, api.ErrSyntax)
	wantLine(t, strings.Repeat("source 1\n", 11)+"source 9\nsink 0\n", 11, api.ErrRange)
}

func TestParseChecksErrors(t *testing.T) {
	long := "n" + strings.Repeat("+n", 60)
	deep := strings.Repeat("(", 21) + "n" + strings.Repeat(")", 21)
	for _, c := range []struct {
		line string
		want api.Errno
	}{
		{"union", api.ErrShape},
		{"union 0 0 0 0 0", api.ErrShape},
		{"union 9 9 9 9 9", api.ErrShape},
		{"first 2", api.ErrRange},
		{"first 3", api.ErrRange},
		{"first 999", api.ErrRange},
		{"union 0 2", api.ErrRange},
		{"first 1", api.ErrState},
		{"union 0 1 999", api.ErrState},
		{"sink 1", api.ErrState},
		{"source 0", api.ErrRange},
		{"source 9", api.ErrRange},
		{"source 999", api.ErrRange},
		{"copy 0 4", api.ErrRange},
		{"every 0 0", api.ErrRange},
		{"every 0 401", api.ErrRange},
		{"map 0 x", api.ErrSyntax},
		{"map 0 n+", api.ErrSyntax},
		{"filter 0 n\tn", api.ErrSyntax},
		{"sub 0 01", api.ErrSyntax},
		{"fold 0 " + long, api.ErrFull},
		{"fold 0 " + deep, api.ErrFull},
		{"map 2 x", api.ErrRange},
		{"map 1 x", api.ErrState},
	} {
		wantLine(t, "source 1\nsink 0\n"+c.line+"\n", 2, c.want)
		wantLine(t, "source 1\nsink 0\n"+c.line+"\nsink 0\nsource 1\n", 2, c.want)
	}
	wantLine(t, "sink 0\n", 0, api.ErrRange)
	wantLine(t, "union\nsource 1\n", 0, api.ErrShape)
}

func TestParseNoSourceOrSink(t *testing.T) {
	wantLine(t, "", 0, api.ErrNone)
	wantLine(t, "source 1\n", 1, api.ErrNone)
	wantLine(t, "source 1\nfirst 0\nunion 0 1\n", 3, api.ErrNone)
	wantLine(t, strings.Repeat("source 1\n", 12), 12, api.ErrNone)
}

func TestParseFirstWrongLine(t *testing.T) {
	wantLine(t, "source 1\nfirst 1\nfoo\nsink 0\n", 1, api.ErrRange)
	wantLine(t, "source 1\nfoo\nfirst 2\nsink 0\n", 1, api.ErrSyntax)
	wantLine(t, "source 9\nsink 0\nsink 1", 0, api.ErrRange)
	wantLine(t, "source 1\nsink 0\nsink 1\nunion\n\n", 2, api.ErrState)
	wantLine(t, "source 1\nmap 0 (\n)\n", 1, api.ErrSyntax)
	wantLine(t, "source 1\nunion\n"+strings.Repeat("sink 0\n", 12), 1, api.ErrShape)
	wantLine(t, "source 1\nfirst 1\n", 1, api.ErrRange)
}

func TestParseLongLines(t *testing.T) {
	const many = 200_000
	wantLine(t, strings.Repeat("\n", many), 0, api.ErrSyntax)
	wantLine(t, strings.Repeat(" ", many)+"\n", 0, api.ErrSyntax)
	wantLine(t, "source "+strings.Repeat("1", many)+"\n", 0, api.ErrSyntax)
	wantLine(t, "source 1\nunion"+strings.Repeat(" 0", many)+"\n", 1, api.ErrShape)
	wantLine(t, "source 1\nunion"+strings.Repeat(" 0", many)+" n\n", 1, api.ErrSyntax)
	wantLine(t, "source 1\nmap 0 "+strings.Repeat("n", many)+"\n", 1, api.ErrFull)
}

// Lines is for other layers, too.
func TestLines(t *testing.T) {
	for _, c := range []struct {
		text string
		want []string
		last bool // whether the last one is ended
	}{
		{"", nil, true}, {"\n", []string{""}, true}, {"a", []string{"a"}, false}, {"a\n", []string{"a"}, true}, {"a\nb", []string{"a", "b"}, false},
		{"\n\na", []string{"", "", "a"}, false}, {"a\n\n", []string{"a", ""}, true}, {" \r\n\x00", []string{" \r", "\x00"}, false},
	} {
		var got []string
		for line, ended := range job.Lines(c.text) {
			got = append(got, line)
			if ended != (c.last || len(got) < len(c.want)) {
				t.Errorf("of %q line %d tells %v", c.text, len(got)-1, ended)
			}
		}
		if !reflect.DeepEqual(got, c.want) {
			t.Errorf("lines of %q are %q, want %q", c.text, got, c.want)
		}
	}
	for line := range job.Lines("a\nb\nc") {
		if line == "b" {
			break
		}
	}
}
