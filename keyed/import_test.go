package keyed_test

import (
	"bytes"
	"slices"
	"testing"

	"weirgate/api"
	"weirgate/keyed"
)

// Y2, Import

// imports what must go well.
func imports(t *testing.T, k *keyed.Keyed, b []byte, low, high int) {
	t.Helper()
	wantTold(t, k.Import(b, low, high), api.OK)
}

func TestImport(t *testing.T) {
	k := keyed.New()
	imports(t, k, []byte{6, 0, 2, 97, 14, 0, 2, 2, 98, 2, 0, 6, 2, 100, 1, 128, 1}, 0, 16)
	wantAll(t, k, held(0, "a", 7, 0), held(1, "b", 1, 0), held(3, "d", -1, 64))
	imports(t, k, []byte{0}, 0, 16)
	wantAll(t, k, held(0, "a", 7, 0), held(1, "b", 1, 0), held(3, "d", -1, 64))
}

// States of other groups are passed over.
func TestImportOfEachRange(t *testing.T) {
	all := exported(t, filled(t, ofGroups(0, 16)...), 0, 16)
	for low := range 17 {
		for high := low; high <= 16; high++ {
			k := keyed.New()
			imports(t, k, all, low, high)
			wantAll(t, k, ofGroups(low, high)...)
		}
	}
}

// What was exported of other groups is such bytes, too.
func TestImportOfOtherGroups(t *testing.T) {
	from := filled(t, ofGroups(0, 16)...)
	k := filled(t, some()...)
	imports(t, k, exported(t, from, 0, 8), 8, 16)
	imports(t, k, exported(t, from, 5, 9), 9, 9)
	imports(t, k, exported(t, from, 5, 5), 0, 16)
	wantAll(t, k, some()...)
	k = keyed.New()
	imports(t, k, exported(t, from, 3, 11), 8, 16)
	wantAll(t, k, ofGroups(8, 11)...)
}

// What has the same node and key takes the place of what was there.
func TestImportInPlace(t *testing.T) {
	k := filled(t, held(0, "a", 1, 1), held(1, "a", 2, 2), held(1, "b", 3, 3), held(2, "d", 4, 4))
	b := written(held(1, "a", 20, 0), held(1, "b", 30, 0), held(1, "c", 50, 0), held(2, "d", 40, 0), held(3, "a", 60, 0))
	imports(t, k, b, 0, 10)
	wantAll(t, k, held(0, "a", 1, 1), held(1, "a", 20, 0), held(1, "b", 30, 0), held(2, "d", 4, 4), held(3, "a", 60, 0))
	imports(t, k, b, 14, 16)
	wantAll(t, k, held(0, "a", 1, 1), held(1, "a", 20, 0), held(1, "b", 30, 0), held(1, "c", 50, 0), held(2, "d", 40, 0), held(3, "a", 60, 0))
	imports(t, k, b, 0, 16)
	wantAll(t, k, held(0, "a", 1, 1), held(1, "a", 20, 0), held(1, "b", 30, 0), held(1, "c", 50, 0), held(2, "d", 40, 0), held(3, "a", 60, 0))
}

func TestImportOfEdges(t *testing.T) {
	all := list(held(0, "", least, greatest), held(0, "\xff", 0, 0), held(11, long(40), greatest, least))
	k := keyed.New()
	imports(t, k, written(all...), 0, 16)
	wantAll(t, k, all...)
}

func TestImportOfNoRange(t *testing.T) {
	k := filled(t, some()...)
	for _, r := range noRanges() {
		wantTold(t, k.Import(written(held(5, "a", 1, 1)), r[0], r[1]), api.ErrRange)
		wantTold(t, k.Import([]byte{0}, r[0], r[1]), api.ErrRange)
	}
	wantAll(t, k, some()...)
}

func TestImportOfNoExport(t *testing.T) {
	k := filled(t, some()...)
	for _, b := range noExports() {
		for _, r := range [][2]int{{0, 16}, {0, 0}, {5, 9}, {16, 16}} {
			if err := k.Import(b, r[0], r[1]); err != api.ErrFile {
				t.Errorf("Import(%v, %d, %d) is %v, want ErrFile", b, r[0], r[1], err)
			}
		}
	}
	wantAll(t, k, some()...)
}

// Bytes that were changed are just those of other states, or none.
func TestImportOfChangedBytes(t *testing.T) {
	refused := 0
	for _, b := range changed(written(held(0, "ab", 1, 200), held(3, "d", -700, 0))) {
		k := keyed.New()
		if k.Import(b, 0, 16) == nil {
			if again := exported(t, k, 0, 16); !bytes.Equal(again, b) {
				t.Errorf("of %v it is %v", b, again)
			}
			continue
		}
		refused++
		wantTold(t, k.Import(b, 0, 16), api.ErrFile)
		wantAll(t, k)
	}
	if refused < 500 {
		t.Errorf("%d were refused", refused)
	}
}

func TestImportOfFull(t *testing.T) {
	for _, all := range fulls() {
		k := keyed.New()
		imports(t, k, written(all...), 0, 16)
		wantAll(t, k, all...)
		for _, b := range [][]byte{
			written(held(0, "", 1, 1)),
			written(many(9, 2000, 400)...),
			// of which all but one take the place of others
			written(append(slices.Clone(all[1:]), held(11, "z", 1, 1))...),
			written(append(slices.Clone(all[399:]), held(11, "z", 1, 1))...),
		} {
			wantTold(t, k.Import(b, 0, 16), api.ErrFull)
			wantAll(t, k, all...)
		}
		wantNone(t, k, 0, "")
		wantNone(t, k, 11, "z")
		// those that take the place of others are none too many
		next := slices.Clone(all)
		for i := range next {
			next[i].A += 1000
		}
		imports(t, k, written(next[100:300]...), 0, 16)
		wantAll(t, k, slices.Concat(all[:100], next[100:300], all[300:])...)
		imports(t, k, written(next...), 0, 16)
		wantAll(t, k, next...)
	}
}

// How many there would be is what counts, not how many come.
func TestImportOfAlmostFull(t *testing.T) {
	k := filled(t, many(2, 0, 300)...)
	wantTold(t, k.Import(written(many(2, 201, 200)...), 0, 16), api.ErrFull)
	wantTold(t, k.Import(written(many(3, 0, 101)...), 0, 16), api.ErrFull)
	wantAll(t, k, many(2, 0, 300)...)
	imports(t, k, written(many(2, 200, 200)...), 0, 16)
	wantAll(t, k, many(2, 0, 400)...)
}

// Those that are passed over do not count.
func TestImportOfFullAndOtherGroups(t *testing.T) {
	all := append(many(2, 0, 398), held(3, "z", 1, 1))
	k := filled(t, all...)
	b := written(ofGroups(0, 16)...)
	wantTold(t, k.Import(b, 0, 1), api.ErrFull)
	wantTold(t, k.Import(b, 0, 16), api.ErrFull)
	imports(t, k, b, 7, 7)
	wantAll(t, k, all...)
	b = written(held(5, "a", 1, 1), held(5, "b", 2, 2), held(5, "c", 3, 3))
	wantTold(t, k.Import(b, 9, 15), api.ErrFull)
	imports(t, k, b, 9, 14)
	wantAll(t, k, append(all, held(5, "b", 2, 2))...)
	wantTold(t, k.Import(b, 0, 9), api.ErrFull)
	imports(t, k, b, 9, 10)
	imports(t, k, b, 1, 14)
	wantAll(t, k, append(all, held(5, "b", 2, 2))...)
}

// Which error comes first: ErrRange, ErrFile, ErrFull.
func TestImportOfSeveralFaults(t *testing.T) {
	all := many(2, 0, 400)
	k := filled(t, all...)
	full := written(held(5, "a", 1, 1))
	for _, r := range noRanges() {
		wantTold(t, k.Import(full, r[0], r[1]), api.ErrRange)
		wantTold(t, k.Import([]byte{9}, r[0], r[1]), api.ErrRange)
		wantTold(t, k.Import(append(bytes.Clone(full), 0), r[0], r[1]), api.ErrRange)
	}
	wantTold(t, k.Import(append(bytes.Clone(full), 0), 0, 16), api.ErrFile)
	wantTold(t, k.Import(full[:len(full)-1], 0, 16), api.ErrFile)
	wantTold(t, k.Import(written(many(2, 0, 401)...), 0, 16), api.ErrFile)
	wantTold(t, k.Import(written(held(5, "a", 1, 1), held(5, "a", 2, 2)), 0, 16), api.ErrFile)
	wantTold(t, k.Import(full, 0, 16), api.ErrFull)
	wantAll(t, k, all...)
}

// The bytes that are handed in are neither changed nor kept, and what lies
// behind them is not read.
func TestImportLeavesBytes(t *testing.T) {
	b := append(written(some()...), 1, 2, 3)
	before := bytes.Clone(b)
	k := keyed.New()
	imports(t, k, b[:len(b)-3], 0, 16)
	wantTold(t, k.Import(b, 0, 16), api.ErrFile)
	imports(t, k, b[:len(b)-3], 4, 9)
	if !bytes.Equal(b, before) {
		t.Errorf("the bytes became %v, were %v", b, before)
	}
	fill(b)
	wantAll(t, k, some()...)
}

// What was imported may be changed like all else.
func TestChangesBehindImport(t *testing.T) {
	k := keyed.New()
	imports(t, k, written(some()...), 0, 16)
	wantTold(t, k.Del(0, "a"), api.OK)
	puts(t, k, held(1, "a", 9, 9))
	wantAll(t, k, held(0, "", 3, 4), held(1, "a", 9, 9), held(1, "b", 0, 0), held(11, "\xff", -1, least))
	wantNone(t, k, 0, "a")
	imports(t, k, written(held(0, "a", 8, 8)), 0, 1)
	wantAll(t, k, held(0, "", 3, 4), held(0, "a", 8, 8), held(1, "a", 9, 9), held(1, "b", 0, 0), held(11, "\xff", -1, least))
}
