package keep_test

import (
	"bytes"
	"maps"
	"slices"
	"strconv"
	"strings"
	"testing"

	"weirgate/api"
	"weirgate/disk"
	"weirgate/keep"
	"weirgate/plain"
)

const (
	least    = -1 << 63
	greatest = 1<<63 - 1
	billion  = 1_000_000_000
)

// pictures are what a disk should have, by ids.
type pictures map[int]string

// String tells the bytes so that they can be read in a message.
func (p pictures) String() string {
	var l []string
	for _, id := range slices.Sorted(maps.Keys(p)) {
		l = append(l, strconv.Itoa(id)+" "+strconv.Quote(p[id]))
	}
	return strings.Join(l, ", ")
}

// noIds are such as no picture may have.
func noIds() []int {
	return []int{0, -1, -2, -billion, -1 << 32, least + 1, least, billion + 1, 2 * billion, 1 << 32, 1<<32 + 1, greatest - 1, greatest}
}

// wantTold holds what a call answered.
func wantTold(t *testing.T, err error, want api.Errno) {
	t.Helper()
	if told := plain.Told(err); told != want || (err == nil) != (want == api.OK) {
		t.Errorf("the answer is %v, want %v", err, want)
	}
}

func wantList(t *testing.T, d *disk.Disk, want ...int) {
	t.Helper()
	if got := keep.List(d); !slices.Equal(got, want) {
		t.Errorf("the ids are %v, want %v", got, want)
	}
}

func wantLatest(t *testing.T, d *disk.Disk, want int, text string) {
	t.Helper()
	if id, b, err := keep.Latest(d); id != want || string(b) != text || err != nil {
		t.Errorf("the latest is %d, %d bytes, %v, want %d, %d bytes", id, len(b), err, want, len(text))
	}
}

// wantNone holds that there is no whole picture.
func wantNone(t *testing.T, d *disk.Disk) {
	t.Helper()
	id, b, err := keep.Latest(d)
	wantTold(t, err, api.ErrNone)
	if id != 0 || b != nil {
		t.Errorf("the latest is %d, %d bytes, want 0 and none", id, len(b))
	}
	wantList(t, d)
}

// wantPictures holds all pictures, each with its bytes.
func wantPictures(t *testing.T, d *disk.Disk, want pictures) {
	t.Helper()
	wantList(t, d, slices.Sorted(maps.Keys(want))...)
	if got := pictured(t, d); !maps.Equal(got, want) {
		t.Errorf("the pictures are %v, want %v", got, want)
	}
}

// pictured are all pictures of a disk. Latest tells but the greatest one, so
// that one's file is left out then, of files that are copied.
func pictured(t *testing.T, d *disk.Disk) pictures {
	t.Helper()
	files, all := filesOf(t, d), pictures{}
	for {
		id, b, err := keep.Latest(diskOf(t, files))
		if err != nil {
			wantTold(t, err, api.ErrNone)
			return all
		}
		all[id] = string(b)
		delete(files, fileOf(t, files, id))
	}
}

// filesOf are all files, by their names.
func filesOf(t *testing.T, d *disk.Disk) map[string][]byte {
	t.Helper()
	files := map[string][]byte{}
	for _, name := range d.Names() {
		b, err := d.Read(name)
		wantTold(t, err, api.OK)
		files[name] = b
	}
	return files
}

// diskOf has these files, all of them safe.
func diskOf(t *testing.T, files map[string][]byte) *disk.Disk {
	t.Helper()
	d := disk.New()
	for name, b := range files {
		wantTold(t, d.Write(name, b), api.OK)
	}
	d.Crash(len(files))
	return d
}

// fileOf is the file without which there is no such picture.
func fileOf(t *testing.T, files map[string][]byte, id int) string {
	t.Helper()
	for name := range files {
		others := maps.Clone(files)
		delete(others, name)
		if !slices.Contains(keep.List(diskOf(t, others)), id) {
			return name
		}
	}
	t.Fatalf("no file has picture %d", id)
	return ""
}

// save keeps a picture, which must go well.
func save(t *testing.T, d *disk.Disk, id int, text string) {
	t.Helper()
	if err := keep.Save(d, id, []byte(text)); err != nil {
		t.Errorf("Save of %d, %d bytes, is %v", id, len(text), err)
	}
}

// clean cleans, which must go well.
func clean(t *testing.T, d *disk.Disk, many int) {
	t.Helper()
	if err := keep.Clean(d, many); err != nil {
		t.Errorf("Clean(%d) is %v", many, err)
	}
}

// saved is a disk with these pictures, which were saved without an error.
func saved(t *testing.T, all pictures) *disk.Disk {
	t.Helper()
	d := disk.New()
	for id, text := range all {
		save(t, d, id, text)
	}
	return d
}

func some() pictures {
	return pictures{2: "two", 9: "", 10: "ten\x00\xff", 1000: "thousand", 999: "one less"}
}

func big(many int) []byte {
	b := bytes.Repeat([]byte{7}, many)
	for i := range b {
		b[i] = byte(i * i)
	}
	return b
}
