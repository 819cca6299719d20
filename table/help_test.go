package table_test

import (
	"slices"
	"strconv"
	"strings"
	"testing"

	"weirgate/api"
	"weirgate/frame"
	"weirgate/plain"
	"weirgate/table"
)

const (
	low  = -1 << 63
	high = 1<<63 - 1
)

func put(key, value string) api.Entry { return api.Entry{Key: key, Value: value} }

func gone(key string) api.Entry { return api.Entry{Key: key, Dead: true} }

func list(l ...api.Entry) []api.Entry { return l }

// rising are so many entries, from the key of a number on; each third one is
// Dead.
func rising(from, many int) []api.Entry {
	var l []api.Entry
	for i := from; i < from+many; i++ {
		key := "k" + strconv.Itoa(10_000+i)
		if i%3 == 2 {
			l = append(l, gone(key))
		} else {
			l = append(l, put(key, strings.Repeat("v", i%7)))
		}
	}
	return l
}

// live are so many entries, none of them Dead.
func live(from, many int) []api.Entry {
	l := rising(from, many)
	for i := range l {
		l[i].Dead = false
	}
	return l
}

func built(t *testing.T, l ...api.Entry) []byte {
	t.Helper()
	b, err := table.Build(l)
	if err != nil {
		t.Fatalf("Build(%v) is %v, %v", l, b, err)
	}
	return b
}

// wantBuilt holds that entries are built, and read as they were.
func wantBuilt(t *testing.T, l ...api.Entry) {
	t.Helper()
	wantRead(t, built(t, l...), l...)
}

// wantRead holds what bytes have, and that just these bytes are built of it.
func wantRead(t *testing.T, b []byte, want ...api.Entry) {
	t.Helper()
	l, err := table.Read(b)
	if err != nil || !slices.Equal(l, want) {
		t.Errorf("Read(%v) is %v, %v, want %v", b, l, err, want)
	}
	if again := built(t, l...); !slices.Equal(again, b) {
		t.Errorf("Build(%v) is %v, want %v", l, again, b)
	}
}

func wantUnbuilt(t *testing.T, want api.Errno, l ...api.Entry) {
	t.Helper()
	if b, err := table.Build(l); b != nil || plain.Told(err) != want {
		t.Errorf("Build(%v) is %v, %v, want nothing, %v", l, b, err, want)
	}
}

// wantNoTable holds that no call takes bytes, whatever else it is given.
func wantNoTable(t *testing.T, b []byte) {
	t.Helper()
	if l, err := table.Read(b); l != nil || plain.Told(err) != api.ErrFile {
		t.Errorf("Read(%v) is %v, %v, want nothing, ErrFile", b, l, err)
	}
	for _, key := range []string{"", "a", "b", "k10000"} {
		wantNotGot(t, b, key, api.ErrFile)
		if l, err := table.Scan(b, key, ""); l != nil || plain.Told(err) != api.ErrFile {
			t.Errorf("Scan(%v, %q) is %v, %v, want nothing, ErrFile", b, key, l, err)
		}
	}
	wantUnmerged(t, api.ErrFile, b)
}

func wantGot(t *testing.T, b []byte, key string, want api.Entry) {
	t.Helper()
	if e, err := table.Get(b, key); err != nil || e != want {
		t.Errorf("Get(%q) is %v, %v, want %v", key, e, err, want)
	}
}

func wantNotGot(t *testing.T, b []byte, key string, want api.Errno) {
	t.Helper()
	if e, err := table.Get(b, key); e != (api.Entry{}) || plain.Told(err) != want {
		t.Errorf("Get(%q) is %v, %v, want nothing, %v", key, e, err, want)
	}
}

func wantScanned(t *testing.T, b []byte, low, high string, want ...api.Entry) {
	t.Helper()
	if l, err := table.Scan(b, low, high); err != nil || !slices.Equal(l, want) {
		t.Errorf("Scan(%q, %q) is %v, %v, want %v", low, high, l, err, want)
	}
}

func wantMerged(t *testing.T, tables [][]byte, dead bool, want ...api.Entry) {
	t.Helper()
	b, err := table.Merge(tables, dead)
	if err != nil {
		t.Errorf("Merge of %d, %v is %v, %v", len(tables), dead, b, err)
		return
	}
	wantRead(t, b, want...)
}

func wantUnmerged(t *testing.T, want api.Errno, tables ...[]byte) {
	t.Helper()
	for _, dead := range []bool{false, true} {
		if b, err := table.Merge(tables, dead); b != nil || plain.Told(err) != want {
			t.Errorf("Merge of %d, %v is %v, %v, want nothing, %v", len(tables), dead, b, err, want)
		}
	}
}

// forged are entries as they are written, whether they may be or not.
func forged(l ...api.Entry) []byte {
	return frame.Seal(unsealed(len(l), l...))
}

func unsealed(many int, l ...api.Entry) []byte {
	b := frame.Num(many)
	for _, e := range l {
		dead := 0
		if e.Dead {
			dead = 1
		}
		b = joined(b, forgedEntry(e.Key, dead, e.Value))
	}
	return b
}

func forgedEntry(key string, dead int, value string) []byte {
	return joined(frame.Text(key), frame.Num(dead), frame.Text(value))
}

func joined(l ...[]byte) []byte { return slices.Concat(l...) }

func long(many int) string { return strings.Repeat("\xc3", many) }
