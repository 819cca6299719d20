package disk_test

import (
	"strings"
	"testing"

	"weirgate/api"
	"weirgate/disk"
)

// K1

func TestNewIsEmpty(t *testing.T) {
	d := disk.New()
	wantFiles(t, d, nil)
	wantSteps(t, d, 0)
	wantUnread(t, d, "a", api.ErrNone)
	write(t, d, "a", "1")
	wantFiles(t, disk.New(), nil)
}

func TestNames(t *testing.T) {
	all := []string{"-", "--", "0", "9", "a", "z", "a-0", "picture-12", "abcdefghijklmnopqrst", "uvwxyz0123456789-abc", strings.Repeat("-", 20)}
	have := files{}
	for c := range 256 {
		if 'a' <= c && c <= 'z' || '0' <= c && c <= '9' || c == '-' {
			all = append(all, string([]byte{byte(c)}), "a"+string([]byte{byte(c)})+"b")
		}
	}
	d := disk.New()
	for _, name := range all {
		write(t, d, name, "of "+name)
		have[name] = "of " + name
	}
	wantFiles(t, d, have)
}

func TestNamesByBytes(t *testing.T) {
	d := disk.New()
	for _, name := range []string{"b", "a", "-", "ab", "a-", "9", "10", "1", "z", "aa", "a0", "--"} {
		write(t, d, name, "")
	}
	if got := strings.Join(d.Names(), " "); got != "- -- 1 10 9 a a- a0 aa ab b z" {
		t.Errorf("the names are %s", got)
	}
}

// noNames are none, each by one fault.
func noNames() []string {
	all := []string{"", strings.Repeat("a", 21), strings.Repeat("a", 22), strings.Repeat("a", 276), "ä", "日", "aé", "１", "a b", "a\n", "a.b", "a_b"}
	for c := range 256 {
		if 'a' <= c && c <= 'z' || '0' <= c && c <= '9' || c == '-' {
			continue
		}
		one := string([]byte{byte(c)})
		all = append(all, one, one+"b", "a"+one, "a"+one+"b", strings.Repeat("a", 19)+one)
	}
	return all
}

func TestNoNames(t *testing.T) {
	d := filled(t, files{"a": "1", "b": "2"})
	for _, name := range noNames() {
		wantTold(t, d.Write(name, []byte("x")), api.ErrSyntax)
		wantTold(t, d.Rename(name, "b"), api.ErrSyntax)
		wantTold(t, d.Rename("a", name), api.ErrSyntax)
		wantTold(t, d.Rename(name, name), api.ErrSyntax)
		wantTold(t, d.Remove(name), api.ErrSyntax)
		wantUnread(t, d, name, api.ErrSyntax)
	}
	wantFiles(t, d, files{"a": "1", "b": "2"})
	wantSteps(t, d, 0)
}

func TestIsName(t *testing.T) {
	for _, name := range []string{"-", "0", "9", "a", "z", "a-0", strings.Repeat("z", 20)} {
		if !disk.IsName(name) {
			t.Errorf("%q is no name", name)
		}
	}
	for _, name := range noNames() {
		if disk.IsName(name) {
			t.Errorf("%q is a name", name)
		}
	}
}

func TestWrite(t *testing.T) {
	d := disk.New()
	write(t, d, "a", "one")
	wantFiles(t, d, files{"a": "one"})
	write(t, d, "b", "two")
	wantFiles(t, d, files{"a": "one", "b": "two"})
	for _, text := range []string{"three is longer", "4", "", "\x00\xff", "5"} {
		write(t, d, "a", text)
		wantFiles(t, d, files{"a": text, "b": "two"})
	}
}

func TestWriteOfNoByte(t *testing.T) {
	d := disk.New()
	wantTold(t, d.Write("a", nil), api.OK)
	wantTold(t, d.Write("b", []byte{}), api.OK)
	wantFiles(t, d, files{"a": "", "b": ""})
	rename(t, d, "a", "c")
	remove(t, d, "b")
	wantFiles(t, d, files{"c": ""})
}

func TestWriteOfMaxFile(t *testing.T) {
	d := filled(t, files{"a": "1"})
	for _, many := range []int{60_001, 60_002, 1 << 20} {
		wantTold(t, d.Write("a", big(many)), api.ErrFull)
		wantTold(t, d.Write("b", big(many)), api.ErrFull)
	}
	wantFiles(t, d, files{"a": "1"})
	wantSteps(t, d, 0)
	wantTold(t, d.Write("a", big(60_000)), api.OK)
	wantTold(t, d.Write("b", big(59_999)), api.OK)
	wantFiles(t, d, files{"a": string(big(60_000)), "b": string(big(59_999))})
}

func TestRename(t *testing.T) {
	d := filled(t, files{"a": "1", "b": "2", "c": "3"})
	rename(t, d, "a", "d")
	wantFiles(t, d, files{"b": "2", "c": "3", "d": "1"})
	rename(t, d, "d", "b")
	wantFiles(t, d, files{"b": "1", "c": "3"})
	rename(t, d, "c", "c")
	wantFiles(t, d, files{"b": "1", "c": "3"})
	rename(t, d, "b", "a")
	wantFiles(t, d, files{"a": "1", "c": "3"})
	wantUnread(t, d, "b", api.ErrNone)
	wantSteps(t, d, 4)
}

func TestRemove(t *testing.T) {
	d := filled(t, files{"a": "1", "b": "2"})
	remove(t, d, "a")
	wantFiles(t, d, files{"b": "2"})
	wantUnread(t, d, "a", api.ErrNone)
	write(t, d, "a", "3")
	wantFiles(t, d, files{"a": "3", "b": "2"})
	remove(t, d, "a")
	remove(t, d, "b")
	wantFiles(t, d, nil)
}

func TestNoSuchFile(t *testing.T) {
	d := filled(t, files{"a": "1", "b": "2"})
	remove(t, d, "b")
	for _, name := range []string{"b", "c", "aa", "-", strings.Repeat("a", 20)} {
		wantTold(t, d.Rename(name, "a"), api.ErrNone)
		wantTold(t, d.Rename(name, name), api.ErrNone)
		wantTold(t, d.Rename(name, "new"), api.ErrNone)
		wantTold(t, d.Remove(name), api.ErrNone)
		wantUnread(t, d, name, api.ErrNone)
	}
	wantFiles(t, d, files{"a": "1"})
	wantSteps(t, d, 1)
}

// Where several faults apply, a name that is none is told first.
func TestFirstFault(t *testing.T) {
	d := disk.New()
	wantTold(t, d.Write("A", big(60_001)), api.ErrSyntax)
	wantTold(t, d.Write("", big(60_001)), api.ErrSyntax)
	wantTold(t, d.Rename("none", "A"), api.ErrSyntax)
	wantTold(t, d.Rename("A", "none"), api.ErrSyntax)
	wantSteps(t, d, 0)
}

// What is handed in is neither changed nor kept.
func TestWhatIsHandedIn(t *testing.T) {
	d := disk.New()
	memory := []byte("one two three")
	wantTold(t, d.Write("a", memory[4:7]), api.OK)
	wantTold(t, d.Write("b", memory[:0]), api.OK)
	if string(memory) != "one two three" {
		t.Errorf("what was handed in is now %q", memory)
	}
	fill(memory)
	wantFiles(t, d, files{"a": "two", "b": ""})
	sync(t, d)
	again := []byte("four")
	wantTold(t, d.Write("a", again), api.OK)
	rename(t, d, "a", "c")
	fill(again)
	wantFiles(t, d, files{"b": "", "c": "four"})
	d.Crash(1)
	wantFiles(t, d, files{"a": "four", "b": ""})
}

// What is handed out is the caller's own, with all that lies behind it.
func TestWhatIsHandedOut(t *testing.T) {
	d := filled(t, files{"a": "one", "b": "", "c": "three"})
	for _, name := range []string{"a", "b", "c"} {
		first, _ := d.Read(name)
		second, _ := d.Read(name)
		before := string(second)
		fill(first[:cap(first)])
		if string(second) != before {
			t.Errorf("two Reads of %s share memory", name)
		}
	}
	names := d.Names()
	more := d.Names()
	for i := range names {
		names[i] = "x"
	}
	if got := strings.Join(more, " "); got != "a b c" {
		t.Errorf("two lists of names share memory: %s", got)
	}
	wantFiles(t, d, files{"a": "one", "b": "", "c": "three"})
	write(t, d, "a", "four")
	b, _ := d.Read("a")
	fill(b[:cap(b)])
	rename(t, d, "a", "d")
	d.Crash(1)
	wantFiles(t, d, files{"a": "four", "b": "", "c": "three"})
}

// What was read stays as it was, whatever becomes of the file.
func TestWhatWasReadStays(t *testing.T) {
	d := filled(t, files{"a": "one"})
	b, _ := d.Read("a")
	names := d.Names()
	write(t, d, "a", "two")
	remove(t, d, "a")
	write(t, d, "b", "six")
	d.Crash(0)
	if string(b) != "one" || len(names) != 1 || names[0] != "a" {
		t.Errorf("what was read has become %q, %q", b, names)
	}
}

// Two disks have nothing in common.
func TestDisksApart(t *testing.T) {
	a, b := disk.New(), disk.New()
	write(t, a, "a", "1")
	b.Fail(0)
	write(t, a, "b", "2")
	wantTold(t, b.Write("a", nil), api.ErrState)
	b.Crash(5)
	wantFiles(t, a, files{"a": "1", "b": "2"})
	wantFiles(t, b, nil)
	wantSteps(t, a, 2)
	wantSteps(t, b, 0)
}
