package disk_test

import (
	"bytes"
	"maps"
	"slices"
	"testing"

	"weirgate/api"
	"weirgate/disk"
	"weirgate/plain"
)

const (
	low  = -1 << 63
	high = 1<<63 - 1
)

// files are what a disk should have, by names.
type files map[string]string

// wantFiles holds all that a disk has.
func wantFiles(t *testing.T, d *disk.Disk, want files) {
	t.Helper()
	if got := d.Names(); !slices.Equal(got, slices.Sorted(maps.Keys(want))) {
		t.Errorf("the names are %q, want those of %q", got, want)
	}
	for name, text := range want {
		wantRead(t, d, name, text)
	}
}

func wantRead(t *testing.T, d *disk.Disk, name, want string) {
	t.Helper()
	if b, err := d.Read(name); err != nil || string(b) != want {
		t.Errorf("Read(%q) is %q, %v, want %q", name, b, err, want)
	}
}

func wantUnread(t *testing.T, d *disk.Disk, name string, want api.Errno) {
	t.Helper()
	if b, err := d.Read(name); b != nil || plain.Told(err) != want {
		t.Errorf("Read(%q) is %q, %v, want nothing, %v", name, b, err, want)
	}
}

// wantTold holds what a call answered.
func wantTold(t *testing.T, err error, want api.Errno) {
	t.Helper()
	if told := plain.Told(err); told != want || (err == nil) != (want == api.OK) {
		t.Errorf("the answer is %v, want %v", err, want)
	}
}

func wantSteps(t *testing.T, d *disk.Disk, want int) {
	t.Helper()
	if got := d.Steps(); got != want {
		t.Errorf("%d steps were done, want %d", got, want)
	}
}

// write, rename, remove and sync do what must go well.
func write(t *testing.T, d *disk.Disk, name, text string) {
	t.Helper()
	wantTold(t, d.Write(name, []byte(text)), api.OK)
}

func rename(t *testing.T, d *disk.Disk, from, to string) {
	t.Helper()
	wantTold(t, d.Rename(from, to), api.OK)
}

func remove(t *testing.T, d *disk.Disk, name string) {
	t.Helper()
	wantTold(t, d.Remove(name), api.OK)
}

func sync(t *testing.T, d *disk.Disk) {
	t.Helper()
	wantTold(t, d.Sync(), api.OK)
}

// filled has these files, all of them safe, and no step done since.
func filled(t *testing.T, have files) *disk.Disk {
	t.Helper()
	d := disk.New()
	for name, text := range have {
		write(t, d, name, text)
	}
	d.Crash(len(have))
	wantFiles(t, d, have)
	wantSteps(t, d, 0)
	return d
}

func fill(b []byte) {
	for i := range b {
		b[i] = 99
	}
}

func big(many int) []byte { return bytes.Repeat([]byte{7}, many) }
