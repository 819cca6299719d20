package engine_test

import (
	"bytes"
	"math/rand"
	"slices"
	"testing"

	"weirgate/api"
	"weirgate/engine"
	"weirgate/frame"
	"weirgate/plain"
)

// R5

func wantNoPicture(t *testing.T, l []api.Node, data [][]api.Record, picture []byte) {
	t.Helper()
	if e, err := engine.Restore(l, data, picture, 3); e != nil || plain.Told(err) != api.ErrFile {
		t.Errorf("Restore of %v is %v, %v, want nothing, ErrFile", picture, e, err)
	}
}

// fewLists are data of everyKind, so few that many pictures can be asked for.
func fewLists() [][]api.Record { return [][]api.Record{inTurn(14), inTurn(11)} }

// pictured is an Engine of everyKind, of few data, and its picture, behind two
// checkpoints, 1 and 3, and some steps more.
func pictured(t *testing.T) (*engine.Engine, []byte) {
	t.Helper()
	e := made(t, nodes(t, everyKind), fewLists(), 3)
	steps(t, e, 10)
	checkpoint(t, e, 1)
	steps(t, e, 6)
	wantTriggered(t, e, 2)
	wantCrashed(t, e, 5)
	steps(t, e, 10)
	checkpoint(t, e, 3)
	steps(t, e, 4)
	picture, number := e.Picture()
	if number != 3 || e.Lag() == 0 || len(e.States()) == 0 {
		t.Fatalf("the picture is of %d, where Lag is %d, and States %v", number, e.Lag(), e.States())
	}
	return e, picture
}

func TestPictureAheadOfAny(t *testing.T) {
	l, data := nodes(t, everyKind), twoLists()
	e := made(t, l, data, 3)
	for _, many := range []int{0, 30, 200} {
		steps(t, e, many)
		picture, number := e.Picture()
		if len(picture) == 0 || number != 0 {
			t.Errorf("Picture is %v, %d", picture, number)
		}
		for workers := 1; workers <= 16; workers++ {
			again := restored(t, l, data, picture, workers)
			wantAsTold(t, again, told(made(t, l, data, workers)))
			wantDone(t, again)
			wantTriggered(t, again, 1)
			stepsToDone(t, again)
			wantEnds(t, again, all(t, l, data))
		}
	}
}

func TestPictureBehindSome(t *testing.T) {
	l, data := nodes(t, everyKind), fewLists()
	e, picture := pictured(t)
	written, states := e.Written(), e.States()
	wantCrashed(t, e, 1)
	lag := e.Lag()
	for workers := 1; workers <= 16; workers++ {
		again := restored(t, l, data, picture, workers)
		wantDone(t, again, 3)
		wantWritten(t, again, written)
		wantLag(t, again, lag)
		if !slices.Equal(again.States(), states) {
			t.Errorf("States are %v, want %v", again.States(), states)
		}
		if b, number := again.Picture(); !bytes.Equal(b, picture) || number != 3 {
			t.Errorf("the picture is %v, %d, want %v", b, number, picture)
		}
		steps(t, again, 5)
		wantCrashed(t, again, 17-workers)
		wantWritten(t, again, written)
		wantLag(t, again, lag)
		checkpoint(t, again, 4)
		wantDone(t, again, 3, 4)
		wantEnds(t, again, all(t, l, data))
		wantDone(t, again, 3, 4, 5)
	}
}

// Of the end, too; and of a job that writes nothing.
func TestPictureOfTheEnd(t *testing.T) {
	for _, text := range []string{everyKind, "source 2\nsource 1\ncopy 0 0\nsink 2\n"} {
		l, data := nodes(t, text), fewLists()
		e := made(t, l, data, 4)
		wantEnds(t, e, all(t, l, data))
		picture, number := e.Picture()
		again := restored(t, l, data, picture, 2)
		wantDone(t, again, number)
		wantLag(t, again, 0)
		wantWritten(t, again, all(t, l, data))
		if again.Enabled() != 0 {
			t.Errorf("Enabled is %d, where all is kept", again.Enabled())
		}
		wantEnds(t, again, all(t, l, data))
	}
}

// What is not kept makes no difference to a picture, nor how many workers there
// are.
func TestPictureOfWhatIsKept(t *testing.T) {
	e, picture := pictured(t)
	for workers := 1; workers <= 16; workers++ {
		steps(t, e, 4)
		e.Trigger()
		steps(t, e, 3)
		if b, number := e.Picture(); !bytes.Equal(b, picture) || number != 3 {
			t.Errorf("the picture has become %v, %d, of %v", b, number, picture)
		}
		wantCrashed(t, e, workers)
	}
	if b, _ := restored(t, nodes(t, everyKind), fewLists(), picture, 9).Picture(); !bytes.Equal(b, picture) {
		t.Errorf("the picture has become %v, of %v", b, picture)
	}
}

// Keys and numbers may be any.
func TestPictureOfEdges(t *testing.T) {
	l := nodes(t, "source 8\nfold 0 s+n\nevery 0 400\nsink 1\nsink 0\n")
	data := [][]api.Record{{rec("", least, 0), rec(long(40), greatest, 1_000_000), rec("\x00\xff\n", -1, 1), rec("", least, 0), rec("/", greatest, 0), rec("/", 1, 0)}}
	e := made(t, l, data, 16)
	stepsToEnd(e)
	checkpoint(t, e, 1)
	picture, _ := e.Picture()
	again := restored(t, l, data, picture, 1)
	wantWritten(t, again, all(t, l, data))
	if !slices.Equal(again.States(), secondStates(l, data)) {
		t.Errorf("States are %v", again.States())
	}
}

func TestRestoreOfWrongWorkers(t *testing.T) {
	_, picture := pictured(t)
	for _, workers := range noWorkers() {
		if e, err := engine.Restore(nodes(t, everyKind), fewLists(), picture, workers); e != nil || plain.Told(err) != api.ErrRange {
			t.Errorf("Restore by %d workers is %v, %v, want nothing, ErrRange", workers, e, err)
		}
	}
}

// Cut off, with more behind, with a byte changed: they are none.
func TestRestoreOfNoPicture(t *testing.T) {
	l, data := nodes(t, everyKind), fewLists()
	_, some := pictured(t)
	none, _ := made(t, l, data, 2).Picture()
	for _, picture := range [][]byte{none, some} {
		for end := range picture {
			wantNoPicture(t, l, data, picture[:end])
			wantNoPicture(t, l, data, picture[end+1:])
		}
		wantNoPicture(t, l, data, append(slices.Clone(picture), 0))
		wantNoPicture(t, l, data, append(slices.Clone(picture), picture...))
		for i := range picture {
			for _, x := range []byte{1, 2, 64, 128, 255} {
				other := slices.Clone(picture)
				other[i] ^= x
				wantNoPicture(t, l, data, other)
			}
		}
		restored(t, l, data, picture, 3)
	}
}

func TestRestoreOfAnyBytes(t *testing.T) {
	l, data := nodes(t, everyKind), fewLists()
	for _, b := range [][]byte{nil, {}, {0}, {1}, {255}, []byte(everyKind), frame.Seal(nil), frame.Seal([]byte{0}), frame.Seal(frame.Text(everyKind)), bytes.Repeat([]byte{255}, 100)} {
		wantNoPicture(t, l, data, b)
	}
	random := rand.New(rand.NewSource(10))
	for range 1500 {
		b := make([]byte, random.Intn(60))
		random.Read(b)
		wantNoPicture(t, l, data, b)
		wantNoPicture(t, l, data, frame.Seal(b))
		wantNoPicture(t, l, data, frame.Seal(append(frame.Text(everyKind), b...)))
	}
}

// A picture of a job that is printed otherwise is none, be it ever so alike.
func TestRestoreOfAnotherJob(t *testing.T) {
	jobs := []string{
		"source 2\nfold 0 s+n\nsink 1\n",
		"source 3\nfold 0 s+n\nsink 1\n",
		"source 2\nfold 0 n+s\nsink 1\n",
		"source 2\nfold 0 (s+n)\nsink 1\n",
		"source 2\nfold 0 s+n\nsink 0\n",
		"source 2\nfold 0 s+n\nsink 1\nsink 1\n",
		"source 2\nmap 0 s+n\nsink 1\n",
		"source 2\nfold 0 s+n\nfold 1 s+n\nsink 1\n",
	}
	data := [][]api.Record{inTurn(20)}
	for _, own := range jobs {
		fresh := made(t, nodes(t, own), data, 2)
		before, _ := fresh.Picture()
		steps(t, fresh, 20)
		checkpoint(t, fresh, 1)
		behind, _ := fresh.Picture()
		for _, other := range jobs {
			if other == own {
				restored(t, nodes(t, other), data, before, 2)
				restored(t, nodes(t, other), data, behind, 2)
				continue
			}
			wantNoPicture(t, nodes(t, other), data, before)
			wantNoPicture(t, nodes(t, other), data, behind)
		}
	}
}

// A picture in which more was handed over than there is, is none of such data.
func TestRestoreOfFewerData(t *testing.T) {
	l := nodes(t, "source 2\nfold 0 s+n\nsink 1\n")
	data := inTurn(20)
	e := made(t, l, [][]api.Record{data}, 2)
	stepsToEnd(e)
	checkpoint(t, e, 1)
	picture, _ := e.Picture()
	for many := range 20 {
		wantNoPicture(t, l, [][]api.Record{data[:many]}, picture)
	}
	// More may have come since.
	more := [][]api.Record{append(inTurn(20), inTurn(9)...)}
	again := restored(t, l, more, picture, 2)
	wantLag(t, again, 9)
	wantEnds(t, again, all(t, l, more))
}

// sealed is a picture, as it is written, of the job "source 2, fold 0 s+n, sink
// 1" with these numbers and texts behind its text.
func sealed(parts ...any) []byte {
	b := frame.Text("source 2\nfold 0 s+n\nsink 1\n")
	for _, part := range parts {
		switch x := part.(type) {
		case int:
			b = append(b, frame.Num(x)...)
		case string:
			b = append(b, frame.Text(x)...)
		}
	}
	return frame.Seal(b)
}

// What is sealed well is none all the same, if no Engine of the job writes it.
func TestRestoreOfSealedBytes(t *testing.T) {
	l, data := nodes(t, "source 2\nfold 0 s+n\nsink 1\n"), [][]api.Record{{rec("a", 4, 0), rec("j", 5, 0), rec("a", 6, 0)}}
	restored(t, l, data, sealed(0, 0, 0, 0, 0), 2)
	e := restored(t, l, data, sealed(7, 1, 1, 2, 1, "a", 4, 0, 1, "j", 5, 0, 2, "a", 1, 4, "j", 1, 5), 2)
	wantDone(t, e, 7)
	wantLag(t, e, 1)
	wantEnds(t, e, all(t, l, data))
	for _, b := range [][]byte{
		sealed(),
		sealed(-1, 0, 0, 0, 0),    // a number below 0
		sealed(1<<31, 0, 0, 0, 0), // of more checkpoints than can be
		sealed(greatest, 0, 0, 0, 0),
		sealed(1, 0, 0, 0),       // no list of lines
		sealed(1, 0, 0, 0, 0, 0), // more behind
		sealed(1, 3, 0, 0, 0),    // more than the split has
		sealed(1, 0, 2, 0, 0),    // likewise
		sealed(1, -1, 0, 0, 0),   // fewer than none
		sealed(1, greatest, 0, 0, 0),
		sealed(1, least, 0, 0, 0),
		sealed(0, 1, 0, 0, 0), // something of none
		sealed(0, 0, 0, 1, 1, "a", 0, 0, 0),
		sealed(0, 0, 0, 0, 1, "a", 1, 4),
		sealed(1, 1, 1, -1, 0), // fewer states than none
		sealed(1, 1, 1, greatest, 0),
		sealed(1, 1, 1, 2, 1, "a", 4, 0, 0),
		sealed(1, 1, 1, 1, 0, "a", 4, 0, 0), // of a Source
		sealed(1, 1, 1, 1, 2, "a", 4, 0, 0), // of a Sink
		sealed(1, 1, 1, 1, 3, "a", 4, 0, 0), // of no node
		sealed(1, 1, 1, 1, -1, "a", 4, 0, 0),
		sealed(1, 1, 1, 1, greatest, "a", 4, 0, 0),
		sealed(1, 1, 1, 1, 1, long(41), 4, 0, 0),
		sealed(1, 1, 1, 2, 1, "a", 4, 0, 1, "a", 4, 0, 0), // twice
		sealed(1, 1, 1, 2, 1, "j", 4, 0, 1, "a", 4, 0, 0), // falling
		sealed(1, 1, 1, 0, -1),
		sealed(1, 1, 1, 0, greatest),
		sealed(1, 1, 1, 0, 1, "a", 0),    // a line of no numbers
		sealed(1, 1, 1, 0, 1, "a", 2, 4), // of more than there are
		sealed(1, 1, 1, 0, 1, "a", -1, 4),
		sealed(1, 1, 1, 0, 1, "a", greatest, 4),
		sealed(1, 1, 1, 0, 1, long(41), 1, 4),
		sealed(1, 1, 1, 0, 2, "a", 1, 4, "a", 1, 6),
		sealed(1, 1, 1, 0, 2, "j", 1, 4, "a", 1, 6),
	} {
		wantNoPicture(t, l, data, b)
	}
}

// Whatever bytes are sealed anew: an Engine of them, if there is one, ends.
func TestRestoreOfSpoiltBytes(t *testing.T) {
	l, data := nodes(t, everyKind), fewLists()
	_, picture := pictured(t)
	body, _, err := frame.Open(picture)
	wantTold(t, err, api.OK)
	random := rand.New(rand.NewSource(11))
	made := 0
	for range 3000 {
		b := slices.Clone(body)
		for range 1 + random.Intn(3) {
			b[len(everyKind)+random.Intn(len(b)-len(everyKind))] = byte(random.Intn(256))
		}
		e, err := engine.Restore(l, data, frame.Seal(b), 1+random.Intn(16))
		if err != nil {
			wantTold(t, err, api.ErrFile)
			continue
		}
		made++
		stepsToEnd(e)
		if _, err := e.Trigger(); err != nil {
			t.Errorf("Trigger is %v", err)
		}
		stepsToEnd(e)
		wantLag(t, e, 0)
		if len(e.Done()) != 2 && len(e.Done()) != 1 {
			t.Errorf("Done is %v", e.Done())
		}
	}
	if made < 100 {
		t.Errorf("only %d were made", made)
	}
}
