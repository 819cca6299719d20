package keep_test

import (
	"slices"
	"testing"

	"weirgate/api"
	"weirgate/disk"
	"weirgate/keep"
)

// P1, Latest and List

func TestNoPicture(t *testing.T) {
	d := disk.New()
	wantNone(t, d)
	d.Crash(0)
	wantNone(t, d)
	d.Fail(0)
	wantNone(t, d)
}

// The greatest by number, whatever is the greatest as text, or came last.
func TestLatestByNumber(t *testing.T) {
	for _, ids := range [][]int{{9, 10}, {10, 9}, {999, 1000}, {1000, 999}, {2, 1}, {99, 100, 11}, {billion, 999_999_999}, {1, 20, 3}, {8, 70, 600, 5000}} {
		d := disk.New()
		for at, id := range ids {
			save(t, d, id, string(big(id%100)))
			so := slices.Sorted(slices.Values(ids[:at+1]))
			wantList(t, d, so...)
			wantLatest(t, d, so[at], string(big(so[at]%100)))
		}
	}
}

func TestListOfMany(t *testing.T) {
	d := disk.New()
	var want []int
	for i := 1; i <= 300; i++ {
		want = append(want, i*i*i)
		save(t, d, (301-i)*(301-i)*(301-i), "")
	}
	wantList(t, d, want...)
	wantLatest(t, d, 300*300*300, "")
}

// Asking does nothing on the disk, and goes on where it has stopped.
func TestAskingDoesNothing(t *testing.T) {
	d := saved(t, some())
	steps := d.Steps()
	d.Fail(0)
	for range 3 {
		wantList(t, d, 2, 9, 10, 999, 1000)
		wantLatest(t, d, 1000, "thousand")
	}
	if d.Steps() != steps {
		t.Errorf("asking did %d steps", d.Steps()-steps)
	}
}

// P2 of DOC.md: what comes out is the caller's

func TestGivenOutIsTheCallers(t *testing.T) {
	d := saved(t, some())
	for range 2 {
		_, picture, err := keep.Latest(d)
		wantTold(t, err, api.OK)
		ids := keep.List(d)
		for i := range picture[:cap(picture)] {
			picture[:cap(picture)][i] = 99
		}
		for i := range ids[:cap(ids)] {
			ids[:cap(ids)][i] = 99
		}
	}
	wantPictures(t, d, some())
}

func TestGivenOutStaysAndIsApart(t *testing.T) {
	d := saved(t, some())
	_, one, _ := keep.Latest(d)
	_, two, _ := keep.Latest(d)
	ids, others := keep.List(d), keep.List(d)
	two[0], others[0] = 99, 99
	save(t, d, 1001, "more")
	clean(t, d, 1)
	if string(one) != "thousand" || !slices.Equal(ids, []int{2, 9, 10, 999, 1000}) {
		t.Errorf("what was given out became %q, %v", one, ids)
	}
}

// What is not whole is not told, and may be saved anew.

func TestNotWhole(t *testing.T) {
	for _, id := range []int{2, 999, 1000} {
		files := filesOf(t, saved(t, some()))
		name := fileOf(t, files, id)
		whole := files[name]
		for _, b := range damaged(whole) {
			files[name] = b
			have := some()
			delete(have, id)
			wantPictures(t, diskOf(t, files), have)

			d := diskOf(t, files)
			save(t, d, id, "anew")
			have[id] = "anew"
			wantPictures(t, d, have)
		}
	}
}

// damaged are bytes that differ a little from those of a file.
func damaged(whole []byte) [][]byte {
	all := [][]byte{nil, append(slices.Clone(whole), 0), slices.Concat(whole, whole)}
	for end := range whole {
		all = append(all, whole[:end], whole[end+1:])
		one := slices.Clone(whole)
		one[end] ^= 4
		all = append(all, one)
	}
	return all
}

// Files that are no pictures by their names are none, whatever they have.
func TestOtherFiles(t *testing.T) {
	files := filesOf(t, saved(t, pictures{5: "five"}))
	sealed := files[fileOf(t, files, 5)]
	for _, name := range []string{"picture", "picture-", "picture-0", "picture-05", "picture--5", "picture-5-", "picture-5a", "5", "pictures-5", "a-picture-7", "picture-1000000001", "picture-999999999999", "-", "zz", "picture-6-x", "x-picture-6"} {
		files[name] = sealed
	}
	d := diskOf(t, files)
	wantList(t, d, 5)
	wantLatest(t, d, 5, "five")
	save(t, d, 6, "six")
	clean(t, d, 1)
	wantList(t, d, 6)
	wantLatest(t, d, 6, "six")
}
