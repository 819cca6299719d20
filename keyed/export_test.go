package keyed_test

import (
	"bytes"
	"testing"

	"weirgate/api"
	"weirgate/keyed"
	"weirgate/plain"
)

// Y2, Export

func TestExport(t *testing.T) {
	k := filled(t, held(1, "b", 1, 0), held(0, "a", 7, 0), held(3, "d", -1, 64))
	for _, c := range []struct {
		low, high int
		want      []byte
	}{
		{0, 16, []byte{6, 0, 2, 97, 14, 0, 2, 2, 98, 2, 0, 6, 2, 100, 1, 128, 1}},
		{0, 15, []byte{4, 0, 2, 97, 14, 0, 2, 2, 98, 2, 0}},
		{1, 16, []byte{4, 2, 2, 98, 2, 0, 6, 2, 100, 1, 128, 1}},
		{9, 10, []byte{2, 2, 2, 98, 2, 0}},
		{0, 9, []byte{2, 0, 2, 97, 14, 0}},
		{10, 16, []byte{2, 6, 2, 100, 1, 128, 1}},
		{10, 15, []byte{0}},
	} {
		if b := exported(t, k, c.low, c.high); !bytes.Equal(b, c.want) {
			t.Errorf("Export(%d, %d) is %v, want %v", c.low, c.high, b, c.want)
		}
	}
}

func TestExportOfEachRange(t *testing.T) {
	k := filled(t, ofGroups(0, 16)...)
	for low := range 17 {
		for high := low; high <= 16; high++ {
			wantExported(t, k, low, high, ofGroups(low, high)...)
		}
	}
	wantAll(t, k, ofGroups(0, 16)...)
}

func TestExportOfNoState(t *testing.T) {
	k := keyed.New()
	for low := range 17 {
		for high := low; high <= 16; high++ {
			wantExported(t, k, low, high)
		}
	}
}

func TestExportOfNoRange(t *testing.T) {
	for _, k := range []*keyed.Keyed{keyed.New(), filled(t, ofGroups(0, 16)...), filled(t, many(0, 0, 400)...)} {
		all := k.All()
		for _, r := range noRanges() {
			if b, err := k.Export(r[0], r[1]); b != nil || plain.Told(err) != api.ErrRange {
				t.Errorf("Export(%d, %d) is %v, %v, want nothing, ErrRange", r[0], r[1], b, err)
			}
		}
		wantAll(t, k, all...)
	}
}

func TestExportOfMany(t *testing.T) {
	for _, all := range fulls() {
		wantExported(t, filled(t, all...), 0, 16, all...)
	}
}

// The empty key, and the longest ones, have groups like others.
func TestExportOfKeys(t *testing.T) {
	most := string(bytes.Repeat([]byte{255}, 40))
	k := filled(t, held(4, "", 1, 1), held(5, most, 2, 2), held(6, "\x80\xff", greatest, least))
	wantExported(t, k, 9, 10, held(4, "", 1, 1), held(6, "\x80\xff", greatest, least))
	wantExported(t, k, 2, 3, held(5, most, 2, 2))
	wantExported(t, k, 0, 2)
	wantExported(t, k, 3, 9)
	wantExported(t, k, 10, 16)
}

// What is gone, or has another in its place, is not told.
func TestExportBehindChanges(t *testing.T) {
	k := filled(t, held(1, "a", 1, 1), held(1, "b", 2, 2), held(2, "a", 3, 3))
	puts(t, k, held(1, "b", 4, 4))
	wantTold(t, k.Del(1, "a"), api.OK)
	wantExported(t, k, 0, 16, held(1, "b", 4, 4), held(2, "a", 3, 3))
}

func TestExportIsFresh(t *testing.T) {
	for _, k := range []*keyed.Keyed{keyed.New(), filled(t, some()...)} {
		all := k.All()
		first, second := exported(t, k, 0, 16), exported(t, k, 0, 16)
		fill(first)
		if !bytes.Equal(second, written(all...)) {
			t.Errorf("the other bytes became %v", second)
		}
		wantExported(t, k, 0, 16, all...)
		wantAll(t, k, all...)
	}
}
