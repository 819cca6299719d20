package run_test

import (
	"fmt"
	"strconv"
	"strings"
	"testing"

	"weirgate/api"
)

// Z1, start, steps, trigger, crash, written and lag

// asking are lines that only an Engine answers.
func asking() []string { return []string{"steps 1 1", "trigger", "crash 2", "written", "lag"} }

// numbered tells whether a line is answered by a number, which it gives.
func numbered(t *testing.T, all ...string) int {
	t.Helper()
	got := last(t, all...)
	num, err := strconv.Atoi(got)
	if err != nil {
		t.Fatalf("%q is answered %q", all[len(all)-1], got)
	}
	return num
}

func TestWithoutAnEngine(t *testing.T) {
	for _, one := range asking() {
		wantLast(t, "ErrState", one)
		wantLast(t, "ErrState", with(doubling(), one)...)
		wantLast(t, "ErrState", with(doubling(), "start 0", one)...)
		wantLast(t, "ErrState", "start 2", one)
		wantLast(t, "ErrState", with(doubling(), "start 2", "put 0 a 1 0", one)...)
		wantLast(t, "ErrState", with(doubling(), "start 2", "node 1 - 1 -", one)...)
	}
	// numbers that an Engine would refuse, or make nothing of
	wantSession(t, "crash 0 => ErrState", "crash 17 => ErrState", "crash -1 => ErrState", "steps 0 0 => ErrState", "steps -1 -1 => ErrState")
	// what cannot be read is bad, all the same
	wantSession(t, "crash x => bad", "crash => bad", "steps 1 => bad", "steps 1 x => bad", "trigger 1 => bad", "written - => bad", "lag  => bad")
}

func TestNumbersOfWorkers(t *testing.T) {
	for workers := range api.Groups + 3 {
		want := "ErrRange"
		if workers >= 1 && workers <= api.Groups {
			want = "ok"
		}
		wantLast(t, want, with(doubling(), fmt.Sprint("start ", workers))...)
		wantLast(t, want, with(doubling(), "start 3", fmt.Sprint("crash ", workers))...)
	}
	for _, workers := range []string{"-1", "-16", "32", "999999999", "-999999999"} {
		wantLast(t, "ErrRange", with(doubling(), "start "+workers)...)
		wantLast(t, "ErrRange", with(doubling(), "start 3", "crash "+workers)...)
	}
}

func TestErrorOfStartLeavesTheEngine(t *testing.T) {
	for _, wrong := range []string{"start 0", "start 17", "start -1"} {
		got := answers(t, with(started(), wrong, "written", "lag", "trigger")...)
		if at := len(started()); strings.Join(got[at:], " ") != "ErrRange "+doubled+" 0 2" {
			t.Errorf("behind %q there are %q", wrong, got[at:])
		}
		// one that is under way, with steps done, goes on
		wantLast(t, doubled, with(doubling(), "start 2", "steps 2 1", "trigger", "steps 1 1", wrong, allSteps, "trigger", wrong, allSteps, "written")...)
		wantLast(t, "ErrState", with(doubling(), "start 2", "trigger", wrong, "trigger")...)
	}
}

// Another start is a new Engine.
func TestStartAnew(t *testing.T) {
	wantSession(t, "node 1 - 1 - => 1", "node 10 0 0 - => 2", "put 0 a 1 0 => ok", "start 2 => ok", "trigger => 1", "start 3 => ok", "trigger => 1", "trigger => ErrState", "lag => 1")
	got := answers(t, with(started(), "start 1", "written", "lag", "trigger")...)
	if at := len(started()); strings.Join(got[at:], " ") != "ok - 3 1" {
		t.Errorf("a new Engine answers %q", got[at:])
	}
}

func TestSteps(t *testing.T) {
	at := with(doubling(), "start 2")
	for _, none := range []string{"steps 0 0", "steps 0 7", "steps -1 0", "steps -999999999 1"} {
		wantLast(t, "0", with(at, none)...)
		wantLast(t, "3", with(at, none, "lag")...)
	}
	for _, pick := range []string{"0", "1", "-1", "7", "-7", "999999999", "-999999999"} {
		wantLast(t, "1", with(at, "steps 1 "+pick)...)
		wantLast(t, "2", with(at, "steps 2 "+pick)...)
		// as many as there are, of which each record takes one at least
		most := numbered(t, with(at, "steps 999999999 "+pick)...)
		if most < 3 || most > 10000*3 {
			t.Errorf("with pick %s there are %d steps", pick, most)
		}
		wantLast(t, fmt.Sprint(most), with(at, fmt.Sprintf("steps %d %s", most, pick))...)
		wantLast(t, fmt.Sprint(most), with(at, fmt.Sprintf("steps %d %s", most+1, pick))...)
		wantLast(t, fmt.Sprint(most-1), with(at, fmt.Sprintf("steps %d %s", most-1, pick))...)
		wantLast(t, "1", with(at, fmt.Sprintf("steps %d %s", most-1, pick), "steps 5 "+pick)...)
		wantLast(t, "0", with(at, "steps 999999999 "+pick, "steps 1 "+pick)...)
		wantLast(t, "0", with(at, "steps 999999999 "+pick, "lag")...)
	}
}

// The first number is how many, the second one which.
func TestStepsAreAsManyAsTheFirstSays(t *testing.T) {
	at := with(doubling(), "start 2")
	wantLast(t, "2", with(at, "steps 2 1")...)
	wantLast(t, "1", with(at, "steps 1 2")...)
	wantLast(t, "0", with(at, "steps 0 2")...)
	wantLast(t, "2", with(at, "steps 2 0")...)
}

// At its beginning there is a step just if there is a record.
func TestStepsOfNoRecord(t *testing.T) {
	job := []string{"node 1 - 3 -", "node 10 0 0 -"}
	wantLast(t, "0", with(job, "start 4", "steps 5 5")...)
	wantLast(t, "0", with(job, "put 1 a 1 0", "start 4", "steps 5 5")...)
	wantLast(t, "1", with(job, "put 0 a 1 0", "start 4", "steps 1 5")...)
	if got := numbered(t, with(job, "start 4", "trigger", "steps 99999 5")...); got < 1 {
		t.Errorf("a checkpoint of no record takes %d steps", got)
	}
}

func TestLag(t *testing.T) {
	at := with(doubling(), "start 3")
	wantLast(t, "3", with(at, "lag")...)
	before := 3
	for many := range 20 {
		now := numbered(t, with(at, fmt.Sprintf("steps %d 1", many), "lag")...)
		if now > before || now < before-1 || many == 1 && now != 2 {
			t.Errorf("behind %d steps there are %d, behind one fewer %d", many, now, before)
		}
		before = now
	}
	wantLast(t, "0", with(at, allSteps, "lag")...)
	wantLast(t, "3", with(at, allSteps, "crash 2", "lag")...)
	wantLast(t, "0", with(at, allSteps, "trigger", allSteps, "crash 2", "lag")...)
}

func TestTrigger(t *testing.T) {
	wantSession(t, "node 1 - 1 - => 1", "node 10 0 0 - => 2", "start 2 => ok", "trigger => 1", "trigger => ErrState", "trigger => ErrState",
		"crash 3 => ok", "trigger => 2", "crash 0 => ErrRange", "trigger => ErrState", "crash 1 => ok", "crash 1 => ok", "trigger => 3", "written => -")
	at := with(started(), "trigger")
	wantLast(t, "2", at...)
	wantLast(t, "ErrState", with(at, "trigger")...)
	wantLast(t, "3", with(at, allSteps, "trigger")...)
	wantLast(t, "3", with(at, "crash 5", "trigger")...)
}

// What is written is what came of a completed checkpoint, none else.
func TestWritten(t *testing.T) {
	at := with(doubling(), "node 10 0 0 -", "start 3")
	wantLast(t, "-;-", with(at, "written")...)
	wantLast(t, "-;-", with(at, allSteps, "written")...)
	wantLast(t, "-;-", with(at, "trigger", allSteps, "crash 2", "written")...)
	wantLast(t, "-;-", with(at, allSteps, "trigger", "written")...)
	wantLast(t, doubled+";a=1 b=4,3", with(at, allSteps, "trigger", allSteps, "written")...)
	wantLast(t, doubled+";a=1 b=4,3", with(at, allSteps, "trigger", allSteps, "crash 9", "written")...)
	wantLast(t, doubled+";a=1 b=4,3", with(at, allSteps, "trigger", allSteps, "crash 0", "written")...)
}

func TestCrashLosesWhatIsNotKept(t *testing.T) {
	at := with(doubling(), "start 3", allSteps)
	wantLast(t, "ok", with(at, "crash 5")...)
	wantLast(t, "3", with(at, "crash 5", "lag")...)
	wantLast(t, "-", with(at, "crash 5", "trigger", allSteps, "written")...)
	wantLast(t, doubled, with(at, "crash 5", allSteps, "trigger", allSteps, "written")...)
	// one that is refused loses nothing
	wantLast(t, "ErrRange", with(at, "crash 17")...)
	wantLast(t, "0", with(at, "crash 17", "lag")...)
	wantLast(t, doubled, with(at, "crash 17", "trigger", allSteps, "written")...)
	wantLast(t, doubled, with(at, "trigger", "crash 0", allSteps, "written")...)
}

// A whole session: steps, a checkpoint, a crash with other workers, and on to
// the end.
func TestWholeSession(t *testing.T) {
	asked := []string{
		"node 1 - 3 -", "node 1 - 2 -", "node 2 0 0 n*2", "node 6 2,1 0 -", "node 7 3 0 s+n", "node 10 4 0 -", "node 8 3 2 -", "node 10 1 0 -", "node 10 6 0 -",
	}
	for i := range 20 {
		asked = append(asked, fmt.Sprintf("put %d %c %d %d", i%2, 'a'+i%5, i, i))
	}
	wantLast(t, "ok", with(asked, "check")...)
	all := "0:a=0,20 0:b=12,44 0:c=4,28 0:d=16,52 0:e=8,36 1:a=5,20 1:b=1,12 1:c=7,24 1:d=3,16 1:e=9,28;a=5,15 b=1,11 c=7,17 d=3,13 e=9,19;0:a=20 0:b=44 0:c=28 0:d=52 0:e=36 1:a=20 1:b=12 1:c=24 1:d=16 1:e=28"
	wantLast(t, all, with(asked, "all")...)
	for _, workers := range [][3]int{{1, 2, 3}, {3, 2, 1}, {16, 1, 16}, {5, 5, 5}, {2, 16, 7}} {
		for pick := range 6 {
			steps := fmt.Sprintf("steps 999999 %d", pick)
			whole := with(asked,
				fmt.Sprint("start ", workers[0]), fmt.Sprintf("steps 15 %d", pick), "trigger", fmt.Sprintf("steps 9 %d", pick), "trigger", steps,
				"written", fmt.Sprint("crash ", workers[1]), fmt.Sprintf("steps 12 %d", pick), "trigger", fmt.Sprintf("steps 3 %d", pick),
				fmt.Sprint("crash ", workers[2]), steps, "trigger", steps, "lag", "written")
			wantLast(t, all, whole...)
			wantLast(t, "0", whole[:len(whole)-1]...)
			wantLast(t, all, with(whole, "crash 4", "written")...)
			wantLast(t, "0", with(whole, "crash 4", "lag")...)
		}
	}
}
