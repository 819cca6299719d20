package keep_test

import (
	"maps"
	"slices"
	"testing"

	"weirgate/api"
	"weirgate/disk"
	"weirgate/keep"
)

// P2: a disk that stops after each number of steps, and then crashes

// starts are pictures that were saved ahead of what is broken off.
func starts() []pictures {
	return []pictures{nil, {4: "four"}, {1: "one", 4: "four", 10: "ten"}, some()}
}

// broken does a thing on disks that stop, each after a step more, till it goes
// well; behind each stop a disk crashes, keeping each number of things, and then
// goes on. How often it was broken off is told.
func broken(t *testing.T, have pictures, do func(*disk.Disk, model) api.Errno, on func(*disk.Disk, model)) int {
	t.Helper()
	for at := 0; ; at++ {
		told := api.OK
		for things := -1; things <= at+1; things++ {
			d, m := saved(t, have), first(have)
			d.Crash(0)
			d.Fail(at)
			told = do(d, m)
			m.crash(t, d, things)
			on(d, m)
			if t.Failed() {
				t.Fatalf("it stopped after %d steps, and kept %d things", at, things)
			}
		}
		if told == api.OK {
			return at
		}
	}
}

// goOn does what must go well behind a crash.
func goOn(t *testing.T, id int) func(*disk.Disk, model) {
	return func(d *disk.Disk, m model) {
		if slices.Contains(keep.List(d), id) {
			wantAnswer(t, m.save(t, d, id, "again"), api.ErrClash)
		} else {
			wantAnswer(t, m.save(t, d, id, "again"), api.OK)
		}
		wantAnswer(t, m.save(t, d, 77, "next"), api.OK)
		wantAnswer(t, m.clean(t, d, 2), api.OK)
		m.crash(t, d, 0)
		if many := len(d.Names()); many != len(m) || many > 2 {
			t.Errorf("%d files are left of %d pictures", many, len(m))
		}
		wantAnswer(t, m.save(t, d, billion, "last"), api.OK)
		wantLatest(t, d, billion, "last")
	}
}

func TestSaveBrokenOff(t *testing.T) {
	for _, have := range starts() {
		for _, id := range []int{1, 3, 5, 500, 5000, billion - 1} {
			if _, there := have[id]; there {
				continue
			}
			save := func(d *disk.Disk, m model) api.Errno { return m.save(t, d, id, "picture") }
			if many := broken(t, have, save, goOn(t, id)); many < 2 {
				t.Errorf("a Save took %d steps: it is not safe", many)
			}
		}
	}
}

func TestCleanBrokenOff(t *testing.T) {
	for _, have := range starts() {
		for many := 1; many <= 6; many++ {
			clean := func(d *disk.Disk, m model) api.Errno { return m.clean(t, d, many) }
			broken(t, have, clean, goOn(t, 4))
			broken(t, have, clean, goOn(t, 2))
		}
	}
}

// Behind a Clean that is broken off another one takes what is left.
func TestCleanAgain(t *testing.T) {
	for many := 1; many <= 5; many++ {
		clean := func(d *disk.Disk, m model) api.Errno { return m.clean(t, d, many) }
		broken(t, some(), clean, func(d *disk.Disk, m model) {
			wantAnswer(t, m.clean(t, d, many), api.OK)
			m.crash(t, d, 0)
			wantPictures(t, d, behind(many))
		})
	}
}

// A Save and then a Clean, so that what is not safe yet is the greatest one.
func TestSaveAndCleanBrokenOff(t *testing.T) {
	for _, have := range starts() {
		both := func(d *disk.Disk, m model) api.Errno {
			return max(m.save(t, d, 500, "picture"), m.clean(t, d, 1))
		}
		broken(t, have, both, goOn(t, 500))
		// the disk goes on without a crash between the two
		for at := range 4 {
			for then := range 8 {
				for things := range 8 {
					d, m := saved(t, have), first(have)
					d.Crash(0)
					d.Fail(at)
					m.save(t, d, 500, "picture")
					d.Fail(then)
					m.clean(t, d, 1)
					m.crash(t, d, things)
					goOn(t, 500)(d, m)
				}
			}
		}
	}
}

// A disk that goes on again without a crash.
func TestSaveBehindStop(t *testing.T) {
	for at := range 6 {
		d, m := saved(t, some()), first(some())
		d.Crash(0)
		d.Fail(at)
		if m.save(t, d, 3000, "broken off") == api.OK {
			continue
		}
		wantTold(t, keep.Clean(d, 9), api.ErrState)
		d.Fail(-1)
		goOn(t, 3000)(d, m)
	}
}

// What was saved stays over any number of crashes, and Latest does not go back.
func TestSavedStays(t *testing.T) {
	d, have := disk.New(), pictures{}
	for id := 1; id <= 40; id++ {
		have[id*7%41] = string(big(id))
		save(t, d, id*7%41, string(big(id)))
		last := slices.Max(slices.Collect(maps.Keys(have)))
		for _, things := range []int{least, -1, 0, 1, 9, greatest} {
			d.Crash(things)
			wantLatest(t, d, last, have[last])
		}
	}
	wantPictures(t, d, have)
}
