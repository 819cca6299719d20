package disk_test

import (
	"testing"

	"weirgate/api"
	"weirgate/disk"
)

// K2

// played does six things behind a Sync, with such that fail in between.
func played(t *testing.T) *disk.Disk {
	t.Helper()
	d := disk.New()
	write(t, d, "a", "1")
	write(t, d, "b", "2")
	sync(t, d)
	wantTold(t, d.Write("A", nil), api.ErrSyntax)
	write(t, d, "a", "3")
	wantTold(t, d.Remove("none"), api.ErrNone)
	rename(t, d, "a", "b")
	wantTold(t, d.Rename("a", "c"), api.ErrNone)
	write(t, d, "c", "4")
	wantTold(t, d.Write("c", big(60_001)), api.ErrFull)
	remove(t, d, "b")
	rename(t, d, "c", "c")
	write(t, d, "a", "5")
	return d
}

// after is what is there when so many of those six things were kept.
func after() []files {
	return []files{
		{"a": "1", "b": "2"},
		{"a": "3", "b": "2"},
		{"b": "3"},
		{"b": "3", "c": "4"},
		{"c": "4"},
		{"c": "4"},
		{"a": "5", "c": "4"},
	}
}

func TestCrashKeepsTheFirst(t *testing.T) {
	for keep, want := range after() {
		d := played(t)
		d.Crash(keep)
		wantFiles(t, d, want)
	}
}

func TestCrashWithKeepBelowNone(t *testing.T) {
	for _, keep := range []int{-1, -2, -6, -1 << 32, low, low + 1} {
		d := played(t)
		d.Crash(keep)
		wantFiles(t, d, after()[0])
	}
}

func TestCrashWithKeepOfMoreThanAll(t *testing.T) {
	for _, keep := range []int{7, 8, 100, 1 << 32, high - 1, high} {
		d := played(t)
		d.Crash(keep)
		wantFiles(t, d, after()[6])
	}
}

// What is there behind a Crash is safe: no further one changes it.
func TestCrashMakesSafe(t *testing.T) {
	for first, want := range after() {
		for _, second := range []int{low, -1, 0, 1, 2, first, 6, high} {
			d := played(t)
			d.Crash(first)
			d.Crash(second)
			wantFiles(t, d, want)
			d.Crash(0)
			wantFiles(t, d, want)
		}
	}
}

// What is done behind a Crash is counted from there.
func TestCrashAfterCrash(t *testing.T) {
	d := played(t)
	d.Crash(2)
	remove(t, d, "b")
	write(t, d, "x", "8")
	write(t, d, "y", "9")
	d.Crash(2)
	wantFiles(t, d, files{"x": "8"})
	remove(t, d, "x")
	d.Crash(0)
	wantFiles(t, d, files{"x": "8"})
}

func TestSyncMakesSafe(t *testing.T) {
	d := played(t)
	sync(t, d)
	d.Crash(0)
	wantFiles(t, d, after()[6])

	d = played(t)
	sync(t, d)
	sync(t, d)
	remove(t, d, "a")
	write(t, d, "d", "6")
	d.Crash(1)
	wantFiles(t, d, files{"c": "4"})
}

// A Sync is none of the things that are kept.
func TestSyncIsNotKept(t *testing.T) {
	d := disk.New()
	sync(t, d)
	sync(t, d)
	write(t, d, "a", "1")
	write(t, d, "b", "2")
	d.Crash(1)
	wantFiles(t, d, files{"a": "1"})
}

// A Sync that fails makes nothing safe, and keeps nothing back.
func TestSyncThatFails(t *testing.T) {
	d := filled(t, files{"a": "1"})
	write(t, d, "a", "2")
	write(t, d, "b", "3")
	d.Fail(2)
	wantTold(t, d.Sync(), api.ErrState)
	d.Crash(1)
	wantFiles(t, d, files{"a": "2"})
}

// A thing that fails is none of the first: neither there, nor counted.
func TestCrashBehindThingsThatFail(t *testing.T) {
	d := filled(t, files{"a": "1"})
	wantTold(t, d.Remove("b"), api.ErrNone)
	wantTold(t, d.Write("", nil), api.ErrSyntax)
	d.Fail(0)
	wantTold(t, d.Write("z", nil), api.ErrState)
	d.Fail(-1)
	write(t, d, "a", "2")
	write(t, d, "a", "3")
	d.Crash(1)
	wantFiles(t, d, files{"a": "2"})
}

func TestCrashOfNothing(t *testing.T) {
	for _, keep := range []int{low, -1, 0, 1, high} {
		d := disk.New()
		d.Crash(keep)
		wantFiles(t, d, nil)
		write(t, d, "a", "1")
		d.Crash(0)
		wantFiles(t, d, nil)
	}
}

// A rename to a name that has a file gives both back.
func TestCrashOfRenames(t *testing.T) {
	safe := files{"a": "1", "b": "2", "c": "3"}
	steps := [][2]string{{"a", "b"}, {"b", "b"}, {"c", "a"}, {"b", "c"}, {"a", "b"}, {"c", "d"}, {"d", "a"}}
	wants := []files{
		safe,
		{"b": "1", "c": "3"},
		{"b": "1", "c": "3"},
		{"a": "3", "b": "1"},
		{"a": "3", "c": "1"},
		{"b": "3", "c": "1"},
		{"b": "3", "d": "1"},
		{"a": "1", "b": "3"},
	}
	for keep, want := range wants {
		d := filled(t, safe)
		for _, s := range steps {
			rename(t, d, s[0], s[1])
		}
		wantFiles(t, d, wants[len(steps)])
		d.Crash(keep)
		wantFiles(t, d, want)
	}
}

// A file of no byte is a file: it is there again, not gone.
func TestCrashGivesEmptyFilesBack(t *testing.T) {
	d := filled(t, files{"a": "", "b": "1"})
	write(t, d, "a", "2")
	remove(t, d, "a")
	rename(t, d, "b", "a")
	write(t, d, "c", "")
	d.Crash(0)
	wantFiles(t, d, files{"a": "", "b": "1"})
}
