package keep_test

import (
	"maps"
	"slices"
	"testing"

	"weirgate/api"
	"weirgate/disk"
	"weirgate/keep"
	"weirgate/plain"
)

// A plain list of what was given: which pictures must be there, which may be,
// and with what bytes. It knows neither files nor steps.

type given struct {
	texts []string // what was given to Save with that id, and may be there
	sure  bool     // it must be there
}

type model map[int]given

// first is that of a disk on which all went well so far.
func first(all pictures) model {
	m := model{}
	for id, text := range all {
		m[id] = given{texts: []string{text}, sure: true}
	}
	return m
}

// want holds what a disk tells against the list.
func (m model) want(t *testing.T, d *disk.Disk) {
	t.Helper()
	got := pictured(t, d)
	wantList(t, d, slices.Sorted(maps.Keys(got))...)
	for id, text := range got {
		if !slices.Contains(m[id].texts, text) {
			t.Errorf("picture %d is %q, of %q", id, text, m[id].texts)
		}
	}
	for id, g := range m {
		if _, there := got[id]; g.sure && !there {
			t.Errorf("picture %d, %q, is lost", id, g.texts)
		}
	}
}

// settle: what a disk has is safe, so it is sure from now on, and nothing else
// can come back.
func (m model) settle(t *testing.T, d *disk.Disk) {
	t.Helper()
	got := pictured(t, d)
	maps.DeleteFunc(m, func(id int, _ given) bool {
		_, there := got[id]
		return !there
	})
	for id, text := range got {
		m[id] = given{texts: []string{text}, sure: true}
	}
}

// save saves on a disk, and holds the answer.
func (m model) save(t *testing.T, d *disk.Disk, id int, text string) api.Errno {
	t.Helper()
	clash := slices.Contains(keep.List(d), id)
	told := plain.Told(keep.Save(d, id, []byte(text)))
	switch {
	case id < 1 || id > billion:
		wantAnswer(t, told, api.ErrRange)
	case clash:
		wantAnswer(t, told, api.ErrClash)
	case told == api.OK:
		m[id] = given{texts: []string{text}, sure: true}
		m.want(t, d)
		m.settle(t, d)
	default:
		wantAnswer(t, told, api.ErrState)
		m[id] = given{texts: append(m[id].texts, text)}
	}
	m.want(t, d)
	return told
}

// clean cleans on a disk, and holds the answer.
func (m model) clean(t *testing.T, d *disk.Disk, many int) api.Errno {
	t.Helper()
	stay := keep.List(d)
	told := plain.Told(keep.Clean(d, many))
	if many < 1 {
		wantAnswer(t, told, api.ErrRange)
		m.want(t, d)
		return told
	}
	stay = stay[max(0, len(stay)-many):]
	for id, g := range m {
		if !slices.Contains(stay, id) {
			g.sure = false
			m[id] = g
		}
	}
	if told == api.OK {
		wantList(t, d, stay...)
		m.settle(t, d)
	} else {
		wantAnswer(t, told, api.ErrState)
		for _, id := range stay {
			if !slices.Contains(keep.List(d), id) {
				t.Errorf("Clean(%d) took picture %d of %v", many, id, stay)
			}
		}
	}
	m.want(t, d)
	return told
}

func (m model) crash(t *testing.T, d *disk.Disk, things int) {
	t.Helper()
	d.Crash(things)
	m.want(t, d)
	m.settle(t, d)
}

func wantAnswer(t *testing.T, told, want api.Errno) {
	t.Helper()
	if told != want {
		t.Errorf("the answer is %v, want %v", told, want)
	}
}
