package run_test

import (
	"math/rand"
	"strings"
	"testing"

	"weirgate/api"
	"weirgate/run"
)

func TestWhatReadmeTells(t *testing.T) {
	wantText(t, "node 1 - 2 -\nnode 2 0 0 n*2\nnode 10 1 0 -\nput 0 b 4 0\nput 0 a 1 5\nall\n", "1\n2\n3\nok\nok\na=2 b=8\n")
	wantText(t, "node 1 - 2 -\nnode 10 0 0 -\nput 0 a 7 0\nstart 3\nsteps 99 0\ntrigger\nsteps 99 0\nwritten\ncrash 2\nlag\nlag 1",
		"1\n2\nok\nok\n"+last(t, "node 1 - 2 -", "node 10 0 0 -", "put 0 a 7 0", "start 3", "steps 99 0")+"\n1\n"+
			last(t, "node 1 - 2 -", "node 10 0 0 -", "put 0 a 7 0", "start 3", "steps 99 0", "trigger", "steps 99 0")+"\na=7\nok\n0\nbad\n")
}

// P1 of DOC.md

// Any bytes are answered, line by line.
func TestThrownBytes(t *testing.T) {
	random := rand.New(rand.NewSource(4))
	for range 3000 {
		b := make([]byte, random.Intn(60))
		for i := range b {
			b[i] = byte(random.Intn(256))
			if random.Intn(3) == 0 {
				b[i] = "\n \n 0-,1nsx"[random.Intn(11)]
			}
		}
		wantText(t, string(b), secondRun(string(b)))
	}
}

// P2 of DOC.md

// The same text is answered the same, however often, and by many at once.
func TestManyAtOnce(t *testing.T) {
	text := lines(with(started(), "written", "crash 3", "put 0 a 7 0", "start 2", allSteps, "trigger", allSteps, "written", "all", "x")...)
	want := run.Run(text)
	got := make(chan string)
	for range 20 {
		go func() { got <- run.Run(text) }()
	}
	for range 20 {
		if one := <-got; one != want {
			t.Errorf("it is answered %q, then %q", want, one)
		}
	}
}

// A session of very many steps ends.
func TestLongSession(t *testing.T) {
	asked := []string{"node 1 - 8 -", "node 1 - 8 -"}
	for range 8 {
		asked = append(asked, "node 6 0,1,0,1 0 -")
	}
	asked = append(asked, "node 5 9 3 -", "node 10 10 0 -")
	for i := range 80 {
		asked = append(asked, "put 0 "+string(rune('a'+i%26))+" 1 1", "put 1 b 1 1")
	}
	asked = append(asked, "start 16", allSteps, "trigger", allSteps, "crash 1", "written", "all")
	if size := len(lines(asked...)); size > api.MaxRun {
		t.Fatalf("there are %d bytes", size)
	}
	got := answers(t, asked...)
	if end := len(got); got[end-1] != got[end-2] || !strings.HasPrefix(got[end-1], "0:a=1,") {
		t.Errorf("it ends with %q, want %q", short(got[end-2]), short(got[end-1]))
	}
}
