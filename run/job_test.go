package run_test

import (
	"fmt"
	"strings"
	"testing"

	"weirgate/api"
)

// Z1, node, put, check and all

// Any node is taken, whatever is wrong with it.
func TestAnyNodeIsTaken(t *testing.T) {
	wantSession(t,
		"node 1 - 1 - => 1", "node 0 - 0 - => 2", "node 11 0 0 - => 3", "node -1 -1 -1 -1 => 4", "node 999999999 999999999 999999999 x => 5",
		"node 10 0 0 n => 6", "node 2 - 0 - => 7", "node 6 0,0,0,0,0 0 - => 8", "node 1 0 9 - => 9", "node 5 0 4 - => 10", "node 7 7 0 n+ => 11",
		"node 10 0 0 - => 12", "node 10 0 0 - => 13", "node 10 0 0 - => 14",
	)
}

// There may be more than a job may have: it is Check that refuses them.
func TestManyNodes(t *testing.T) {
	var asked []string
	for i := range 250 {
		asked = append(asked, "node 1 - 1 ")
		if got := last(t, asked...); got != fmt.Sprint(i+1) {
			t.Errorf("node %d is answered %q", i, got)
		}
	}
}

func TestTextOfANode(t *testing.T) {
	source := "node 1 - 1 -"
	for _, text := range []string{"-", ""} {
		wantLast(t, "ok", source, "node 10 0 0 "+text, "check")
		wantLast(t, "ErrSyntax", source, "node 2 0 0 "+text, "node 10 0 0 -", "check")
	}
	wantLast(t, "ErrShape", source, "node 10 0 0 --", "check")
	wantLast(t, "ErrShape", source, "node 10 0 0 0", "check")
	wantLast(t, "a=-7", source, "node 2 0 0 -n", "node 10 1 0 -", "put 0 a 7 0", "all")
	wantLast(t, "a=7", source, "node 2 0 0 --n", "node 10 1 0 -", "put 0 a 7 0", "all")
}

// What comes of records by a node of each kind: it is what the words say.
func TestEachKindOfNode(t *testing.T) {
	for _, c := range [][2]string{
		{"node 2 0 0 n*10", "a=70,50,70"},
		{"node 3 0 0 n>5", "a=7,7"},
		{"node 4 0 0 n%4", "a/1=5 a/3=7,7"},
		{"node 5 0 2 -", "a=7,7,5,5,7,7"},
		{"node 5 0 0 -", "-"},
		{"node 6 0,0 0 -", "0:a=7,5,7 1:a=7,5,7"},
		{"node 7 0 0 s+n", "a=7,12,19"},
		{"node 8 0 2 -", "a=12"},
		{"node 9 0 0 -", "a=7"},
	} {
		job := []string{"node 1 - 8 -", c[0], "node 10 1 0 -", "put 0 a 7 0", "put 0 a 5 0", "put 0 a 7 0"}
		wantLast(t, "ok", with(job, "check")...)
		wantLast(t, c[1], with(job, "all")...)
		wantLast(t, c[1], with(job, "start 5", allSteps, "trigger", allSteps, "written")...)
	}
}

// The Engine is gone, whatever the node is, or the record.
func TestNodeAndPutTakeTheEngineAway(t *testing.T) {
	for _, line := range []string{"node 1 - 1 -", "node 0 - 0 -", "put 0 a 1 0", "put 3 a 1 0", "put 0 a 1 -1"} {
		for _, asked := range []string{"steps 1 1", "trigger", "crash 2", "written", "lag"} {
			wantLast(t, "ErrState", with(started(), line, asked)...)
		}
	}
	wantSession(t, "node 1 - 1 - => 1", "node 10 0 0 - => 2", "start 1 => ok", "lag => 0", "put 0 a 1 0 => ok", "lag => ErrState", "start 1 => ok", "lag => 1",
		"node 10 0 0 - => 3", "lag => ErrState", "written => ErrState", "start 1 => ok", "written => -;-", "put 1 a 1 0 => ok", "lag => ErrState")
}

// A node or a record that is bad leaves it.
func TestWhatIsBadLeavesTheEngine(t *testing.T) {
	for _, line := range []string{"node 1 - 1", "node x - 1 -", "put 4 a 1 0", "put -1 a 1 0", "put 0 a 1", "put 0 a 1 x", ""} {
		got := answers(t, with(started(), line, "written", "lag")...)
		if at := len(started()); got[at] != "bad" || got[at+1] != doubled || got[at+2] != "0" {
			t.Errorf("behind %q there are %q", line, got[at:])
		}
	}
}

func TestSourcesOfPut(t *testing.T) {
	wantSession(t,
		"node 1 - 1 - => 1", "node 10 0 0 - => 2", "node 1 - 2 - => 3", "node 10 2 0 - => 4", "node 1 - 3 - => 5", "node 1 - 4 - => 6", "node 10 5 0 - => 7", "node 10 4 0 - => 8",
		"put 3 d 4 0 => ok", "put 1 b 2 0 => ok", "put 0 a 1 0 => ok", "put 2 c 3 0 => ok", "put 1 b 5 0 => ok",
		"put 4 e 1 0 => bad", "put 5 e 1 0 => bad", "put -1 e 1 0 => bad", "put 999999999 e 1 0 => bad", "put -999999999 e 1 0 => bad",
		"all => a=1;b=2,5;d=4;c=3", "start 3 => ok", "lag => 5",
	)
}

// A Source need not be there yet, nor ever.
func TestPutAheadOfItsSource(t *testing.T) {
	wantSession(t,
		"put 2 c 3 0 => ok", "put 0 a 1 0 => ok", "all => ErrNone", "node 1 - 1 - => 1", "put 1 b 2 0 => ok", "node 10 0 0 - => 2", "all => a=1", "start 1 => ok", "lag => 1",
		"node 1 - 1 - => 3", "node 10 2 0 - => 4", "all => a=1;b=2", "put 1 b 4 0 => ok", "start 1 => ok", "lag => 3",
		"node 1 - 1 - => 5", "node 10 4 0 - => 6", "all => a=1;b=2,4;c=3", "start 1 => ok", "lag => 4",
	)
	// a record that none takes is not looked at
	wantSession(t, "put 3 a 1 -1 => ok", "node 1 - 1 - => 1", "node 10 0 0 - => 2", "all => -", "start 1 => ok", "lag => 0")
}

// A fifth Source and more have no data.
func TestFifthSource(t *testing.T) {
	var asked []string
	for range 6 {
		asked = append(asked, "node 1 - 1 -")
	}
	for i := range 6 {
		asked = append(asked, fmt.Sprintf("node 10 %d 0 -", i))
	}
	for i := range 6 {
		asked = append(asked, fmt.Sprintf("put %d k%d %d 0", i, i, i))
	}
	wantLast(t, "k0=0;k1=1;k2=2;k3=3;-;-", with(asked, "all")...)
	wantLast(t, "4", with(asked, "start 1", "lag")...)
	wantLast(t, "k0=0;k1=1;k2=2;k3=3;-;-", with(asked, "start 1", allSteps, "trigger", allSteps, "written")...)
	for _, one := range asked[12:] {
		if got, bad := last(t, one), one[4] > '3'; (got == "bad") != bad {
			t.Errorf("%q is answered %q", one, got)
		}
	}
}

func TestPutIsWhatItSays(t *testing.T) {
	job := []string{"node 1 - 1 -", "node 10 0 0 -"}
	wantLast(t, "a=-999999999,0,999999999", with(job, "put 0 a -999999999 0", "put 0 a 0 1000000", "put 0 a 999999999 7", "all")...)
	// Time is the last word
	wantLast(t, "a=1000001", with(job, "put 0 a 1000001 1000000", "all")...)
	wantLast(t, "ErrRange", with(job, "put 0 a 1000000 1000001", "all")...)
	wantLast(t, "ErrRange", with(job, "put 0 a 1 -1", "all")...)
	wantLast(t, "a=-1", with(job, "put 0 a -1 1", "all")...)
	// KEY
	long := strings.Repeat("k", api.MaxKey)
	wantLast(t, long+"=1", with(job, "put 0 "+long+" 1 0", "all")...)
	wantLast(t, "ErrRange", with(job, "put 0 "+long+"k 1 0", "all")...)
	wantLast(t, "-=1 0=1 A=1 a=1,2", with(job, "put 0 a 1 0", "put 0 A 1 0", "put 0 0 1 0", "put 0 - 1 0", "put 0 a 2 0", "all")...)
}

// As many records as a text has room for.
func TestManyRecords(t *testing.T) {
	asked := []string{"node 1 - 8 ", "node 10 0 0 "}
	var want []string
	for range 260 {
		asked = append(asked, "put 0  1 1")
		want = append(want, "1")
	}
	wantLast(t, "="+strings.Join(want, ","), with(asked, "all")...)
	wantLast(t, "260", with(asked, "start 9", "lag")...)
}

// What is wrong with a job, of each error.
func wrongJobs() map[string][][]string {
	many := []string{"node 10 0 0 -"}
	for range api.MaxNodes {
		many = append([]string{"node 1 - 1 -"}, many...)
	}
	source, sink := "node 1 - 1 -", "node 10 0 0 -"
	deep := strings.Repeat("-", api.MaxDeep+1) + "n"
	return map[string][][]string{
		"ErrNone": {nil, {source}, {source, "node 2 0 0 n"}},
		"ErrFull": {many, {source, "node 2 0 0 " + deep, sink}, {source, "node 7 0 0 " + strings.Repeat("n+", 60) + "n", sink}},
		"ErrRange": {
			{"node 0 - 0 -"}, {"node 11 - 0 -"}, {"node -1 - 0 -"}, {"node 1 - 0 -"}, {"node 1 - 9 -"}, {"node 1 - -1 -"}, {source, "node 10 1 0 -"},
			{source, "node 10 -1 0 -"}, {source, "node 5 0 4 -", sink}, {source, "node 8 0 0 -", sink}, {source, "node 8 0 401 -", sink}, {"node 10 0 0 -"},
		},
		"ErrShape":  {{"node 1 0 1 -"}, {source, "node 10 - 0 -"}, {source, "node 10 0,0 0 -"}, {source, "node 10 0 1 -"}, {source, "node 10 0 0 n"}, {"node 1 - 1 n"}},
		"ErrState":  {{source, sink, "node 10 1 0 -"}, {source, sink, "node 6 0,1 0 -"}},
		"ErrSyntax": {{source, "node 2 0 0 n+", sink}, {source, "node 3 0 0 -", sink}, {source, "node 4 0 0 ", sink}, {source, "node 7 0 0 x", sink}},
	}
}

// An error of the job is told by check, all and start alike, whatever data
// there are and how many workers.
func TestWrongJobs(t *testing.T) {
	for want, jobs := range wrongJobs() {
		for _, job := range jobs {
			for _, data := range [][]string{nil, {"put 0 a 1 0"}, {"put 0 a 1 -1", "put 3 a 1 0"}} {
				for _, asked := range []string{"check", "all", "start 2", "start 0"} {
					wantLast(t, want, with(with(job, data...), asked)...)
				}
			}
		}
	}
}

func TestCheckOfARightJob(t *testing.T) {
	wantLast(t, "ok", "node 1 - 1 -", "node 10 0 0 -", "check")
	wantLast(t, "ok", with(doubling(), "check")...)
	// data are not its to look at
	wantLast(t, "ok", with(doubling(), "put 0 a 1 -1", "check")...)
	wantSession(t, "check => ErrNone", "node 1 - 8 - => 1", "check => ErrNone", "node 10 0 0 - => 2", "check => ok", "node 10 1 0 - => 3", "check => ErrState", "check => ErrState")
}

func TestAllOfSinks(t *testing.T) {
	job := []string{"node 1 - 3 -", "node 10 0 0 -", "node 3 0 0 n<0", "node 10 2 0 -", "node 2 0 0 n*n", "node 10 4 0 -"}
	wantLast(t, "-;-;-", with(job, "all")...)
	wantLast(t, "a=5;-;a=25", with(job, "put 0 a 5 0", "all")...)
	wantLast(t, "a=5,-2 b=1;a=-2;a=25,4 b=1", with(job, "put 0 a 5 0", "put 0 b 1 0", "put 0 a -2 0", "all")...)
	wantLast(t, "-", "node 1 - 1 -", "node 10 0 0 -", "all")
	wantLast(t, "=1 a=3,2", "node 1 - 1 -", "node 10 0 0 -", "put 0 a 3 0", "put 0  1 0", "put 0 a 2 0", "all")
	// keys by bytes
	wantLast(t, "10=1 9=1 B=1 a=1 é=1 \xff=1", "node 1 - 1 -", "node 10 0 0 -", "put 0 \xff 1 0", "put 0 é 1 0", "put 0 a 1 0", "put 0 B 1 0", "put 0 9 1 0", "put 0 10 1 0", "all")
}

// Numbers of all 64 bits are written, though a N has nine digits.
func TestAllOfFarNumbers(t *testing.T) {
	for _, num := range []string{"9223372036854775807", "-9223372036854775807", "9223372036854775807+n", "1000000000", "-1000000000", "0"} {
		want := num
		if strings.HasSuffix(num, "+n") {
			want = "-9223372036854775808"
		}
		wantLast(t, "a="+want, "node 1 - 1 -", "node 2 0 0 "+num, "node 10 1 0 -", "put 0 a 1 0", "all")
		wantLast(t, "a="+want, "node 1 - 1 -", "node 2 0 0 "+num, "node 10 1 0 -", "put 0 a 1 0", "start 4", allSteps, "trigger", allSteps, "written")
	}
}

// What all and start refuse in data.
func TestWrongData(t *testing.T) {
	for _, asked := range []string{"all", "start 2", "start 0"} {
		wantLast(t, "ErrRange", with(doubling(), "put 0 a 1 -1", asked)...)
		wantLast(t, "ErrRange", with(doubling(), "put 0 a 1 1000001", asked)...)
		wantLast(t, "ErrRange", with(doubling(), "put 0 "+strings.Repeat("k", 41)+" 1 1", asked)...)
		wantLast(t, "ErrFull", with(flowing(), "put 0 a 1 0", asked)...)
	}
	wantLast(t, "ok", with(flowing(), "start 2")...)
	wantLast(t, "-", with(flowing(), "all")...)
}

// flowing is a job of which a node hands on as many records as it may.
func flowing() []string {
	all := []string{"node 1 - 1 -", "node 6 0,0,0,0 0 -", "node 6 1,1,1,1 0 -", "node 3 2 0 0", "node 10 3 0 -"}
	for range api.MaxFlow / 16 {
		all = append(all, "put 0 a 1 0")
	}
	return all
}
