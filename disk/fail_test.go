package disk_test

import (
	"testing"

	"weirgate/api"
	"weirgate/disk"
)

// K3

func TestSteps(t *testing.T) {
	d := disk.New()
	wantSteps(t, d, 0)
	sync(t, d)
	wantSteps(t, d, 1)
	write(t, d, "a", "1")
	wantSteps(t, d, 2)
	write(t, d, "a", "1")
	wantSteps(t, d, 3)
	rename(t, d, "a", "b")
	wantSteps(t, d, 4)
	rename(t, d, "b", "b")
	wantSteps(t, d, 5)
	remove(t, d, "b")
	wantSteps(t, d, 6)
	sync(t, d)
	sync(t, d)
	wantSteps(t, d, 8)
}

func TestStepsOfWhatIsNone(t *testing.T) {
	d := filled(t, files{"a": "1"})
	sync(t, d)
	wantRead(t, d, "a", "1")
	wantUnread(t, d, "b", api.ErrNone)
	wantUnread(t, d, "B", api.ErrSyntax)
	d.Names()
	d.Fail(9)
	wantTold(t, d.Write("B", nil), api.ErrSyntax)
	wantTold(t, d.Write("b", big(60_001)), api.ErrFull)
	wantTold(t, d.Rename("b", "a"), api.ErrNone)
	wantTold(t, d.Rename("a", ""), api.ErrSyntax)
	wantTold(t, d.Remove("b"), api.ErrNone)
	wantSteps(t, d, 1)
	d.Fail(1)
	wantTold(t, d.Write("a", nil), api.ErrState)
	wantTold(t, d.Sync(), api.ErrState)
	wantSteps(t, d, 1)
}

func TestStepsSinceCrash(t *testing.T) {
	for _, keep := range []int{-1, 0, 1, 2, 9} {
		d := disk.New()
		write(t, d, "a", "1")
		write(t, d, "b", "2")
		d.Crash(keep)
		wantSteps(t, d, 0)
		sync(t, d)
		write(t, d, "a", "1")
		wantSteps(t, d, 2)
		d.Crash(keep)
		wantSteps(t, d, 0)
	}
}

// wantStopped holds that no step is done any more, whatever else is wrong.
func wantStopped(t *testing.T, d *disk.Disk, have files) {
	t.Helper()
	steps := d.Steps()
	for _, name := range []string{"a", "new", "", "A"} {
		wantTold(t, d.Write(name, []byte("x")), api.ErrState)
		wantTold(t, d.Write(name, big(60_001)), api.ErrState)
		wantTold(t, d.Remove(name), api.ErrState)
		for _, to := range []string{"a", "b", "newer", "", "A"} {
			wantTold(t, d.Rename(name, to), api.ErrState)
		}
	}
	wantTold(t, d.Sync(), api.ErrState)
	wantSteps(t, d, steps)
	wantFiles(t, d, have)
	wantUnread(t, d, "new", api.ErrNone)
	wantUnread(t, d, "A", api.ErrSyntax)
}

func TestFail(t *testing.T) {
	wants := []files{
		{"a": "1"},
		{"a": "2"},
		{"a": "2"},
		{"a": "2", "b": "3"},
		{"a": "3"},
		{},
	}
	for at, want := range wants {
		d := filled(t, files{"a": "1"})
		d.Fail(at)
		steps := []func() error{
			func() error { return d.Write("a", []byte("2")) },
			d.Sync,
			func() error { return d.Write("b", []byte("3")) },
			func() error { return d.Rename("b", "a") },
			func() error { return d.Remove("a") },
		}
		for i, step := range steps {
			if i < at {
				wantTold(t, step(), api.OK)
			} else {
				wantTold(t, step(), api.ErrState)
			}
		}
		wantSteps(t, d, at)
		wantStopped(t, d, want)
	}
}

// What was done ahead of Fail counts too: of all that was done so many.
func TestFailBehindSteps(t *testing.T) {
	d := filled(t, files{"a": "1"})
	sync(t, d)
	sync(t, d)
	for _, at := range []int{0, 1, 2} {
		d.Fail(at)
		wantStopped(t, d, files{"a": "1"})
	}
	d.Fail(3)
	write(t, d, "a", "2")
	wantStopped(t, d, files{"a": "2"})
}

// What is done with an error does not bring the end nearer.
func TestFailCountsNoErrors(t *testing.T) {
	d := filled(t, files{"a": "1"})
	d.Fail(1)
	for range 5 {
		wantTold(t, d.Remove("b"), api.ErrNone)
		wantTold(t, d.Write("", nil), api.ErrSyntax)
	}
	write(t, d, "a", "2")
	wantStopped(t, d, files{"a": "2"})
}

func TestFailBelowNone(t *testing.T) {
	for _, at := range []int{-1, -2, -100, low, low + 1} {
		d := disk.New()
		d.Fail(at)
		for range 100 {
			write(t, d, "a", "1")
		}
		wantSteps(t, d, 100)
	}
}

func TestFailFarAway(t *testing.T) {
	d := disk.New()
	d.Fail(high)
	write(t, d, "a", "1")
	sync(t, d)
	wantSteps(t, d, 2)
}

// The last Fail holds, be it sooner, later, or never.
func TestFailAgain(t *testing.T) {
	d := disk.New()
	d.Fail(5)
	d.Fail(1)
	write(t, d, "a", "1")
	wantStopped(t, d, files{"a": "1"})
	d.Fail(2)
	write(t, d, "a", "2")
	wantStopped(t, d, files{"a": "2"})
	d.Fail(-1)
	write(t, d, "a", "3")
	write(t, d, "a", "4")
	wantSteps(t, d, 4)
}

// A Crash ends it: from there on all is done again, as often as it comes.
func TestFailTillCrash(t *testing.T) {
	for _, at := range []int{0, 1, 2, 3, 4, 5} {
		d := disk.New()
		d.Fail(at)
		for i := range 3 {
			if d.Write("a", []byte{byte(i)}) != nil {
				wantTold(t, d.Sync(), api.ErrState)
			}
		}
		d.Crash(0)
		wantFiles(t, d, nil)
		for range 20 {
			write(t, d, "a", "1")
			sync(t, d)
		}
		wantSteps(t, d, 40)
	}
}

// A disk that is at its end crashes as any other: what was done is kept.
func TestCrashOfStopped(t *testing.T) {
	for keep, want := range after() {
		d := played(t)
		d.Fail(9)
		wantStopped(t, d, after()[6])
		d.Crash(keep)
		wantFiles(t, d, want)
		wantSteps(t, d, 0)
		write(t, d, "new", "1")
	}
}
