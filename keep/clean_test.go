package keep_test

import (
	"slices"
	"testing"

	"weirgate/api"
	"weirgate/disk"
	"weirgate/keep"
)

// P1, Clean

// behind are some pictures that stay where many do.
func behind(many int) pictures {
	have := some()
	for _, id := range []int{2, 9, 10, 999, 1000}[:max(0, 5-many)] {
		delete(have, id)
	}
	return have
}

func TestClean(t *testing.T) {
	for many := 1; many <= 6; many++ {
		d := saved(t, some())
		clean(t, d, many)
		wantPictures(t, d, behind(many))
		if len(d.Names()) != min(many, 5) {
			t.Errorf("the files %q are left of %d pictures", d.Names(), many)
		}
		clean(t, d, many)
		wantPictures(t, d, behind(many))
		// what is gone does not come back
		d.Crash(0)
		wantPictures(t, d, behind(many))
	}
}

func TestCleanOfMoreThanThereAre(t *testing.T) {
	for _, many := range []int{5, 6, 100, billion, billion + 1, 1 << 32, greatest - 1, greatest} {
		d := saved(t, some())
		clean(t, d, many)
		wantPictures(t, d, some())
		d = disk.New()
		clean(t, d, many)
		wantNone(t, d)
	}
}

func TestCleanOfTooFew(t *testing.T) {
	for _, many := range []int{0, -1, -2, -5, -1 << 32, least + 1, least} {
		d := saved(t, some())
		wantTold(t, keep.Clean(d, many), api.ErrRange)
		wantPictures(t, d, some())
		d.Fail(0)
		wantTold(t, keep.Clean(d, many), api.ErrRange)
		wantTold(t, keep.Clean(disk.New(), many), api.ErrRange)
		wantPictures(t, d, some())
	}
}

func TestCleanOfNoPicture(t *testing.T) {
	d := disk.New()
	clean(t, d, 1)
	wantNone(t, d)
	save(t, d, 1, "a")
	clean(t, d, 1)
	clean(t, d, 1)
	wantPictures(t, d, pictures{1: "a"})
}

func TestSaveBehindClean(t *testing.T) {
	d := saved(t, some())
	clean(t, d, 2)
	have := behind(2)
	for _, id := range []int{9, 2, 10, 1} {
		have[id] = "anew"
		save(t, d, id, "anew")
		wantPictures(t, d, have)
		wantTold(t, keep.Save(d, id, nil), api.ErrClash)
	}
	wantTold(t, keep.Save(d, 999, nil), api.ErrClash)
	d.Crash(0)
	wantPictures(t, d, have)
	for range 50 {
		clean(t, d, 1)
		save(t, d, 2, "anew")
		wantPictures(t, d, pictures{2: "anew", 1000: "thousand"})
	}
}

// What is not whole does not count among those that stay, and goes, whatever
// its id.
func TestCleanOfWhatIsNotWhole(t *testing.T) {
	for id := range some() {
		files := filesOf(t, saved(t, some()))
		name := fileOf(t, files, id)
		files[name] = files[name][1:]
		have := some()
		delete(have, id)
		wantPictures(t, diskOf(t, files), have)

		d := diskOf(t, files)
		clean(t, d, 5)
		wantPictures(t, d, have)
		if len(d.Names()) != 4 {
			t.Errorf("the files %q are left of 4 pictures", d.Names())
		}
		d.Crash(0)
		if len(d.Names()) != 4 {
			t.Errorf("the files %q came back of 4 pictures", d.Names())
		}

		d = diskOf(t, files)
		clean(t, d, 1)
		last := slices.Max(keep.List(diskOf(t, files)))
		wantPictures(t, d, pictures{last: have[last]})
		if len(d.Names()) != 1 {
			t.Errorf("the files %q are left of one picture", d.Names())
		}
	}
}

// Where none is whole, all goes.
func TestCleanWhereNoneIsWhole(t *testing.T) {
	files := filesOf(t, saved(t, some()))
	for name, b := range files {
		files[name] = b[:len(b)-1]
	}
	d := diskOf(t, files)
	wantNone(t, d)
	clean(t, d, 3)
	wantNone(t, d)
	if len(d.Names()) != 0 {
		t.Errorf("the files %q are left of no picture", d.Names())
	}
}

func TestCleanOnStoppedDisk(t *testing.T) {
	for _, many := range []int{1, 2, 4, 5, 6, greatest} {
		d := saved(t, some())
		d.Fail(0)
		wantTold(t, keep.Clean(d, many), api.ErrState)
		wantPictures(t, d, some())
		d.Fail(-1)
		clean(t, d, many)
		wantPictures(t, d, behind(many))
	}
	d := disk.New()
	d.Fail(0)
	wantTold(t, keep.Clean(d, 1), api.ErrState)
}

func TestCleanOfMany(t *testing.T) {
	d := disk.New()
	var ids []int
	for i := 1; i <= 400; i++ {
		ids = append(ids, 7*i)
		save(t, d, 7*i, "a")
	}
	for _, many := range []int{399, 200, 101, 100, 2, 1} {
		clean(t, d, many)
		wantList(t, d, ids[400-many:]...)
	}
}
