package lsm_test

import (
	"bytes"
	"slices"
	"strconv"
	"strings"
	"testing"

	"weirgate/api"
	"weirgate/lsm"
	"weirgate/plain"
	"weirgate/table"
)

func put(key, value string) api.Entry { return api.Entry{Key: key, Value: value} }

func gone(key string) api.Entry { return api.Entry{Key: key, Dead: true} }

func list(l ...api.Entry) []api.Entry { return l }

func long(many int) string { return strings.Repeat("\xc3", many) }

// key is that of a number; the numbers' keys rise.
func key(i int) string { return "k" + strconv.Itoa(10_000+i) }

// many are so many entries, from the key of a number on.
func many(from, many int) []api.Entry {
	var l []api.Entry
	for i := from; i < from+many; i++ {
		l = append(l, put(key(i), strconv.Itoa(i)))
	}
	return l
}

// away are many that were taken away.
func away(from, many int) []api.Entry {
	var l []api.Entry
	for i := from; i < from+many; i++ {
		l = append(l, gone(key(i)))
	}
	return l
}

func made(t *testing.T, limit int) *lsm.Store {
	t.Helper()
	s, err := lsm.New(limit)
	if s == nil || err != nil {
		t.Fatalf("New(%d) is %v, %v", limit, s, err)
	}
	return s
}

func opened(t *testing.T, limit int, tables ...[]byte) *lsm.Store {
	t.Helper()
	s, err := lsm.Open(tables, limit)
	if s == nil || err != nil {
		t.Fatalf("Open of %d tables, %d is %v, %v", len(tables), limit, s, err)
	}
	return s
}

func built(t *testing.T, l ...api.Entry) []byte {
	t.Helper()
	b, err := table.Build(l)
	if err != nil {
		t.Fatalf("Build(%v) is %v, %v", l, b, err)
	}
	return b
}

// does puts entries, and takes keys away, which must go well.
func does(t *testing.T, s *lsm.Store, l ...api.Entry) {
	t.Helper()
	for _, e := range l {
		if err := set(s, e); err != nil {
			t.Errorf("of %v it is %v", e, err)
		}
	}
}

func set(s *lsm.Store, e api.Entry) error {
	if e.Dead {
		return s.Del(e.Key)
	}
	return s.Put(e.Key, e.Value)
}

func flush(t *testing.T, s *lsm.Store) {
	t.Helper()
	wantTold(t, s.Flush(), api.OK)
}

func compact(t *testing.T, s *lsm.Store) {
	t.Helper()
	wantTold(t, s.Compact(), api.OK)
}

// wantTold holds what a call answered.
func wantTold(t *testing.T, err error, want api.Errno) {
	t.Helper()
	if told := plain.Told(err); told != want || (err == nil) != (want == api.OK) {
		t.Errorf("the answer is %v, want %v", err, want)
	}
}

func wantGot(t *testing.T, s *lsm.Store, key, want string) {
	t.Helper()
	if value, err := s.Get(key); err != nil || value != want {
		t.Errorf("Get(%q) is %q, %v, want %q", key, value, err, want)
	}
}

func wantNone(t *testing.T, s *lsm.Store, keys ...string) {
	t.Helper()
	for _, key := range keys {
		if value, err := s.Get(key); value != "" || plain.Told(err) != api.ErrNone {
			t.Errorf("Get(%q) is %q, %v, want nothing, ErrNone", key, value, err)
		}
	}
}

func wantScanned(t *testing.T, s *lsm.Store, low, high string, want ...api.Entry) {
	t.Helper()
	if l := s.Scan(low, high); !slices.Equal(l, want) {
		t.Errorf("Scan(%q, %q) is %v, want %v", low, high, l, want)
	}
}

// wantAll holds all that there is, by Scan and by Get.
func wantAll(t *testing.T, s *lsm.Store, want ...api.Entry) {
	t.Helper()
	wantScanned(t, s, "", "", want...)
	for _, e := range want {
		wantGot(t, s, e.Key, e.Value)
	}
}

// wantTables holds how many keys are fresh, and what each table has, the
// newest first.
func wantTables(t *testing.T, s *lsm.Store, fresh int, want ...[]api.Entry) {
	t.Helper()
	if got := s.Fresh(); got != fresh {
		t.Errorf("%d keys are fresh, want %d", got, fresh)
	}
	got := s.Tables()
	if len(got) != len(want) {
		t.Errorf("there are %d tables, want %d", len(got), len(want))
		return
	}
	for i, b := range got {
		l, err := table.Read(b)
		if err != nil || !slices.Equal(l, want[i]) || !bytes.Equal(b, built(t, want[i]...)) {
			t.Errorf("table %d has %v, %v, want %v", i, l, err, want[i])
		}
	}
}

func wantUnopened(t *testing.T, want api.Errno, limit int, tables ...[]byte) {
	t.Helper()
	if s, err := lsm.Open(tables, limit); s != nil || plain.Told(err) != want {
		t.Errorf("Open of %d tables, %d is %v, %v, want nothing, %v", len(tables), limit, s, err, want)
	}
}
