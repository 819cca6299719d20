package disk

import "weirgate/api"

const maxName = 20 // bytes

// check tells what bars a step with these names, whatever files there are.
func (d *Disk) check(names ...string) error {
	if d.bound >= 0 && d.steps >= d.bound {
		return api.ErrState
	}
	for _, name := range names {
		if !IsName(name) {
			return api.ErrSyntax
		}
	}
	return nil
}

// did counts a thing that a Crash may take back.
func (d *Disk) did(back func()) {
	d.steps++
	d.undo = append(d.undo, back)
}

// back keeps what stands at a name now, to be put there again.
func (d *Disk) back(name string) func() {
	was, had := d.files[name]
	return func() {
		if had {
			d.files[name] = was
		} else {
			delete(d.files, name)
		}
	}
}

// IsName tells whether a file may have that name; other layers ask it of names
// that they are told.
func IsName(s string) bool {
	if len(s) < 1 || len(s) > maxName {
		return false
	}
	for i := range len(s) {
		if !isNameByte(s[i]) {
			return false
		}
	}
	return true
}

func isNameByte(c byte) bool {
	return 'a' <= c && c <= 'z' || '0' <= c && c <= '9' || c == '-'
}
