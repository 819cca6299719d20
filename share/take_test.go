package share_test

import (
	"slices"
	"strings"
	"testing"

	"weirgate/api"
	"weirgate/share"
)

// S1, New and Take

func TestNewIsEmpty(t *testing.T) {
	s := share.New()
	wantShared(t, s, nil)
	for _, file := range files("a", "", "A", strings.Repeat("a", 20), strings.Repeat("a", 21)) {
		wantCount(t, s, file, 0)
	}
	take(t, s, 1, "a")
	wantShared(t, share.New(), nil)
}

func TestTake(t *testing.T) {
	s := share.New()
	take(t, s, 4, "b", "a")
	wantShared(t, s, shared{4: files("a", "b")})
	take(t, s, 2, "c", "b")
	wantShared(t, s, shared{4: files("a", "b"), 2: files("b", "c")})
	take(t, s, 9, "b")
	wantShared(t, s, shared{4: files("a", "b"), 2: files("b", "c"), 9: files("b")})
	wantCount(t, s, "b", 3)
}

func TestTakeNumbers(t *testing.T) {
	s := share.New()
	for _, picture := range []int{-1, -2, -400, -1 << 32, least + 1, least} {
		wantTold(t, s.Take(picture, files("a")), api.ErrRange)
		wantTold(t, s.Take(picture, nil), api.ErrRange)
	}
	wantShared(t, s, nil)
	have := shared{}
	for _, picture := range []int{greatest, 0, 1 << 32, 1, greatest - 1, 400, 401} {
		have[picture] = files("a")
		take(t, s, picture, "a")
		wantShared(t, s, have)
	}
}

func TestTakeOfOneThatIsThere(t *testing.T) {
	s := filled(t, some())
	for picture, own := range some() {
		wantTold(t, s.Take(picture, own), api.ErrClash)
		wantTold(t, s.Take(picture, nil), api.ErrClash)
		wantTold(t, s.Take(picture, files("new")), api.ErrClash)
	}
	wantShared(t, s, some())
	wantCount(t, s, "new", 0)
}

func TestTakeOfMostPictures(t *testing.T) {
	s := share.New()
	have := shared{}
	for i := range 400 {
		have[5*i] = files("all", names(i, 1)[0])
		take(t, s, 5*i, have[5*i]...)
	}
	wantShared(t, s, have)
	wantCount(t, s, "all", 400)
	for _, picture := range []int{1, 2000, greatest} {
		wantTold(t, s.Take(picture, files("all")), api.ErrFull)
		wantTold(t, s.Take(picture, files("new")), api.ErrFull)
		wantTold(t, s.Take(picture, nil), api.ErrFull)
	}
	wantShared(t, s, have)
	drop(t, s, 50)
	take(t, s, 1, "new")
	wantTold(t, s.Take(50, nil), api.ErrFull)
	delete(have, 50)
	have[1] = files("new")
	wantShared(t, s, have)
}

func TestTakeOfMostFiles(t *testing.T) {
	s := share.New()
	for _, many := range []int{401, 402, 5000} {
		wantTold(t, s.Take(1, names(0, many)), api.ErrFull)
	}
	wantShared(t, s, nil)
	wantCount(t, s, names(0, 1)[0], 0)
	have := shared{1: names(0, 400), 2: names(200, 399), 3: names(5000, 400)}
	for picture, own := range have {
		take(t, s, picture, own...)
	}
	// there is no bound of how many are in all pictures together
	wantShared(t, s, have)
}

// A file counts once, for MaxItems too, wherever it is told again.
func TestTakeOfFilesToldTwice(t *testing.T) {
	s := share.New()
	take(t, s, 0, "a", "a", "b", "a", "b")
	wantShared(t, s, shared{0: files("a", "b")})
	take(t, s, 1, "b", "c", "b")
	wantShared(t, s, shared{0: files("a", "b"), 1: files("b", "c")})
	drop(t, s, 0)
	wantShared(t, s, shared{1: files("b", "c")})

	all := names(0, 400)
	take(t, s, 2, slices.Concat(all, all)...)
	take(t, s, 3, slices.Repeat(files("a"), 401)...)
	take(t, s, 4, append(slices.Repeat(files("x", "y"), 5000), all[:398]...)...)
	wantShared(t, s, shared{1: files("b", "c"), 2: all, 3: files("a"), 4: append(files("x", "y"), all[:398]...)})
	wantTold(t, s.Take(5, slices.Concat(all, all, files("a"))), api.ErrFull)
	wantTold(t, s.Take(5, slices.Concat(files("a"), all, all)), api.ErrFull)
}

func TestTakeOfNoFile(t *testing.T) {
	s := share.New()
	wantTold(t, s.Take(1, nil), api.OK)
	wantTold(t, s.Take(0, []string{}), api.OK)
	wantShared(t, s, shared{0: nil, 1: nil})
	wantTold(t, s.Take(0, files("a")), api.ErrClash)
	drop(t, s, 0)
	take(t, s, 0, "a")
	wantShared(t, s, shared{0: files("a"), 1: nil})
}

func TestTakeOfNames(t *testing.T) {
	all := files("--", "a-0", "abcdefghijklmnopqrst", "uvwxyz0123456789-abc", strings.Repeat("-", 20), strings.Repeat("z", 20))
	for c := range 256 {
		if 'a' <= c && c <= 'z' || '0' <= c && c <= '9' || c == '-' {
			all = append(all, string([]byte{byte(c)}), "a"+string([]byte{byte(c)})+"b")
		}
	}
	s := share.New()
	for i, name := range all {
		take(t, s, i, name)
	}
	take(t, s, len(all), all...)
	for _, name := range all {
		wantCount(t, s, name, 2)
	}
}

func TestTakeOfNoNames(t *testing.T) {
	s := filled(t, some())
	for _, none := range noNames() {
		wantTold(t, s.Take(1, files(none)), api.ErrSyntax)
		wantTold(t, s.Take(1, files(none, "a", "new")), api.ErrSyntax)
		wantTold(t, s.Take(1, files("a", none, "new")), api.ErrSyntax)
		wantTold(t, s.Take(1, files("a", "new", none)), api.ErrSyntax)
		wantTold(t, s.Take(1, files(none, "a", none, "b", none)), api.ErrSyntax)
		wantCount(t, s, none, 0)
	}
	wantShared(t, s, some())
	wantCount(t, s, "new", 0)
	take(t, s, 1, "new")
}

// Each error behind those that the chapter names ahead of it.
func TestTakeTellsTheFirst(t *testing.T) {
	full := names(0, 401)
	none := files("a", "A")
	both := append(names(0, 400), "A")

	s := filled(t, shared{3: files("a")})
	for _, l := range [][]string{full, none, both, append(files(""), full...)} {
		wantTold(t, s.Take(-1, l), api.ErrRange)
		wantTold(t, s.Take(3, l), api.ErrClash)
	}
	wantTold(t, s.Take(4, both), api.ErrFull)
	wantTold(t, s.Take(4, append(files(""), full...)), api.ErrFull)
	wantTold(t, s.Take(4, append(full[:200:200], both...)), api.ErrFull)
	wantTold(t, s.Take(4, both[1:]), api.ErrSyntax)
	wantTold(t, s.Take(4, append(both[1:], both[1:]...)), api.ErrSyntax)
	wantShared(t, s, shared{3: files("a")})

	have := shared{}
	for i := range 400 {
		have[i] = files("a")
	}
	s = filled(t, have)
	for _, l := range [][]string{nil, full, none, both} {
		wantTold(t, s.Take(least, l), api.ErrRange)
		wantTold(t, s.Take(399, l), api.ErrClash)
		wantTold(t, s.Take(400, l), api.ErrFull)
	}
	wantShared(t, s, have)
}

// What is handed in is as it was, also behind its length, and can be changed
// without changing the Share.
func TestTakeKeepsNoList(t *testing.T) {
	s := share.New()
	room := files("b", "a", "b", "behind", "A")
	was := slices.Clone(room)
	take(t, s, 1, room[:3]...)
	wantTold(t, s.Take(2, room), api.ErrSyntax)
	if !slices.Equal(room, was) {
		t.Errorf("the list became %q, was %q", room, was)
	}
	for i := range room {
		room[i] = "other"
	}
	wantShared(t, s, shared{1: files("a", "b")})
	wantCount(t, s, "other", 0)
	drop(t, s, 1)
	wantShared(t, s, nil)
}
