package keep

import (
	"slices"
	"strconv"
	"strings"

	"weirgate/api"
	"weirgate/disk"
	"weirgate/frame"
)

const (
	maxID  = 1_000_000_000
	prefix = "picture-" // a name of 18 bytes at most, with the id behind
)

func isID(id int) bool { return id >= 1 && id <= maxID }

func nameOf(id int) string { return prefix + strconv.Itoa(id) }

// idOf tells which picture a file is named for.
func idOf(name string) (int, bool) {
	digits, ok := strings.CutPrefix(name, prefix)
	if !ok {
		return 0, false
	}
	id, err := strconv.Atoi(digits)
	// Digits with a 0 ahead would name a file that nameOf does not find.
	return id, err == nil && isID(id) && nameOf(id) == name
}

// ids of all files of pictures, whole or not, rising.
func ids(d *disk.Disk) []int {
	var l []int
	for _, name := range d.Names() {
		if id, ok := idOf(name); ok {
			l = append(l, id)
		}
	}
	// By bytes 10 stands ahead of 9.
	slices.Sort(l)
	return l
}

// read gives a picture, if it is whole: its file is one sealed piece.
func read(d *disk.Disk, id int) ([]byte, error) {
	b, err := d.Read(nameOf(id))
	if err != nil {
		return nil, err
	}
	picture, size, err := frame.Open(b)
	if err != nil {
		return nil, err
	}
	if size != len(b) {
		return nil, api.ErrFile
	}
	return picture, nil
}

func isWhole(d *disk.Disk, id int) bool {
	_, err := read(d, id)
	return err == nil
}
