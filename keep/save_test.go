package keep_test

import (
	"bytes"
	"testing"

	"weirgate/api"
	"weirgate/disk"
	"weirgate/keep"
)

// P1, Save

func TestSave(t *testing.T) {
	d, have := disk.New(), pictures{}
	for _, id := range []int{7, 1, billion, 500, 10, 9, billion - 1, 2, 123_456_789} {
		have[id] = string(big(id % 1000))
		save(t, d, id, have[id])
		wantPictures(t, d, have)
	}
}

func TestSaveOfNoId(t *testing.T) {
	for _, id := range noIds() {
		d := disk.New()
		wantTold(t, keep.Save(d, id, []byte("a")), api.ErrRange)
		wantTold(t, keep.Save(d, id, nil), api.ErrRange)
		wantNone(t, d)
		if names, steps := d.Names(), d.Steps(); len(names) != 0 || steps != 0 {
			t.Errorf("Save of %d left %q, by %d steps", id, names, steps)
		}
		d = saved(t, some())
		wantTold(t, keep.Save(d, id, []byte("a")), api.ErrRange)
		wantPictures(t, d, some())
	}
}

func TestSaveOfWhatIsThere(t *testing.T) {
	for id, text := range some() {
		d := saved(t, some())
		for _, other := range []string{text, "other", "", string(big(50_000))} {
			wantTold(t, keep.Save(d, id, []byte(other)), api.ErrClash)
		}
		wantPictures(t, d, some())
		d.Crash(9)
		wantTold(t, keep.Save(d, id, []byte(text)), api.ErrClash)
		wantTold(t, keep.Save(d, id, []byte("other")), api.ErrClash)
		wantPictures(t, d, some())
	}
}

func TestSaveOfNoBytes(t *testing.T) {
	d := disk.New()
	wantTold(t, keep.Save(d, 3, nil), api.OK)
	wantTold(t, keep.Save(d, 4, []byte{}), api.OK)
	wantPictures(t, d, pictures{3: "", 4: ""})
	wantTold(t, keep.Save(d, 3, nil), api.ErrClash)
	wantTold(t, keep.Save(d, 4, []byte("a")), api.ErrClash)
	d.Crash(0)
	wantLatest(t, d, 4, "")
}

func TestSaveOfLongOnes(t *testing.T) {
	d, have := disk.New(), pictures{}
	for i, many := range []int{1, 63, 64, 127, 128, 8191, 8192, 16384, 49_999, 50_000} {
		have[i+1] = string(big(many))
		save(t, d, i+1, have[i+1])
		wantLatest(t, d, i+1, have[i+1])
	}
	wantPictures(t, d, have)
	d.Crash(0)
	wantPictures(t, d, have)
}

// All bytes are kept, whatever they are.
func TestSaveOfAnyBytes(t *testing.T) {
	d := disk.New()
	for i := range 256 {
		save(t, d, i+1, string([]byte{byte(i)}))
		wantLatest(t, d, i+1, string([]byte{byte(i)}))
	}
	for i, c := range []byte{0, 1, 127, 128, 255} {
		text := string(bytes.Repeat([]byte{c}, 3000))
		save(t, d, 300+i, text)
		wantLatest(t, d, 300+i, text)
	}
}

func TestSaveOfTooLongOnes(t *testing.T) {
	for _, many := range []int{60_001, 60_002, 1 << 17, 1 << 22} {
		d := disk.New()
		wantTold(t, keep.Save(d, 5, big(many)), api.ErrFull)
		wantNone(t, d)
		save(t, d, 5, "short")
		wantTold(t, keep.Save(d, 5, big(many)), api.ErrClash)
		wantTold(t, keep.Save(d, 0, big(many)), api.ErrRange)
		wantTold(t, keep.Save(d, 6, big(many)), api.ErrFull)
		wantTold(t, keep.Save(d, 4, big(many)), api.ErrFull)
		wantPictures(t, d, pictures{5: "short"})
		d.Crash(9)
		wantPictures(t, d, pictures{5: "short"})
		save(t, d, 6, "now")
		wantPictures(t, d, pictures{5: "short", 6: "now"})
	}
}

// Between what fits and what is longer than a file, it is kept whole or not at
// all.
func TestSaveOfWhatMayFit(t *testing.T) {
	for many := 50_001; many <= 60_000; many += 1 + many%37 {
		d, text := disk.New(), string(big(many))
		if err := keep.Save(d, 5, []byte(text)); err == nil {
			wantLatest(t, d, 5, text)
		} else {
			wantTold(t, err, api.ErrFull)
			wantNone(t, d)
		}
	}
}

// What a disk that has stopped says comes behind what is wrong with an id.
func TestSaveOnStoppedDisk(t *testing.T) {
	d := saved(t, some())
	d.Fail(0)
	for range 2 {
		wantTold(t, keep.Save(d, 5, []byte("a")), api.ErrState)
		wantTold(t, keep.Save(d, billion, nil), api.ErrState)
		wantTold(t, keep.Save(d, 5, big(60_001)), api.ErrState)
		wantTold(t, keep.Save(d, 10, []byte("a")), api.ErrClash)
		wantTold(t, keep.Save(d, 0, []byte("a")), api.ErrRange)
		wantTold(t, keep.Save(d, billion+1, big(60_001)), api.ErrRange)
		wantPictures(t, d, some())
	}
	d.Fail(-1)
	save(t, d, 5, "b")
	have := some()
	have[5] = "b"
	wantPictures(t, d, have)
}

// The bytes stay the caller's, with what lies behind them.
func TestSaveLeavesTheBytes(t *testing.T) {
	room := big(400)
	picture := room[100:200]
	was := bytes.Clone(room)
	d := disk.New()
	wantTold(t, keep.Save(d, 1, picture), api.OK)
	if !bytes.Equal(room, was) {
		t.Errorf("Save wrote into what it was given")
	}
	for i := range room {
		room[i] = 99
	}
	wantLatest(t, d, 1, string(was[100:200]))
	d.Crash(0)
	wantLatest(t, d, 1, string(was[100:200]))
}

func TestDisksAreApart(t *testing.T) {
	one, two := disk.New(), disk.New()
	save(t, one, 1, "a")
	wantNone(t, two)
	save(t, two, 1, "b")
	save(t, two, 2, "c")
	clean(t, two, 1)
	wantPictures(t, one, pictures{1: "a"})
	wantPictures(t, two, pictures{2: "c"})
}
