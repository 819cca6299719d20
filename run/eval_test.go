package run_test

import (
	"fmt"
	"strings"
	"testing"

	"weirgate/api"
	"weirgate/group"
)

// Z1, eval and owner

func TestEval(t *testing.T) {
	wantSession(t,
		"eval n>3?n*2:-s 5 1 => 10", "eval n>3?n*2:-s 3 1 => -1", "eval n-s 5 7 => -2", "eval s-n 5 7 => 2", "eval n -8 0 => -8", "eval s 0 -8 => -8",
		"eval (n+1)*2 -1 0 => 0", "eval min(n,s) 4 3 => 3", "eval max(n,s) 4 3 => 4", "eval 0 0 0 => 0", "eval --n 7 0 => 7", "eval n/0 7 0 => 0",
		"eval 9223372036854775807+n 1 0 => -9223372036854775808", "eval n*n*n 999999999 0 => "+fmt.Sprint(cube(999999999)),
	)
}

// cube wraps round as numbers of 64 bits do.
func cube(n int) int { return n * n * n }

func TestErrorsOfEval(t *testing.T) {
	for _, text := range []string{"", "-", "n+", "+n", "01", "x", "n=n=n", "(n", "n)", "min(n)", "9223372036854775808", "é"} {
		wantLast(t, "ErrSyntax", "eval "+text+" 1 1")
	}
	longest := strings.Repeat("n+", 59) + "nn"
	wantLast(t, "ErrSyntax", "eval "+longest+" 1 1")
	wantLast(t, "ErrFull", "eval "+longest+"n 1 1")
	wantLast(t, "60", "eval "+longest[:len(longest)-1]+" 1 1")
	wantLast(t, "1", "eval "+strings.Repeat("-", api.MaxDeep)+"n 1 1")
	wantLast(t, "ErrFull", "eval "+strings.Repeat("-", api.MaxDeep+1)+"n 1 1")
	wantLast(t, "bad", "eval n + 1 1 1")
}

func TestOwner(t *testing.T) {
	for workers := -1; workers <= api.Groups+1; workers++ {
		for one := -1; one <= api.Groups; one++ {
			want := "ErrRange"
			if who, err := group.Owner(workers, one); err == nil {
				want = fmt.Sprint(who)
			}
			wantLast(t, want, fmt.Sprintf("owner %d %d", workers, one))
		}
	}
	wantSession(t,
		"owner 3 6 => 1", "owner 3 5 => 0", "owner 16 15 => 15", "owner 1 15 => 0", "owner 2 0 => 0", "owner 2 8 => 1",
		"owner 6 16 => ErrRange", "owner 0 0 => ErrRange", "owner 17 0 => ErrRange", "owner 3 -1 => ErrRange", "owner 999999999 0 => ErrRange", "owner 3 999999999 => ErrRange",
	)
}

// Neither hangs on the job, nor does anything to it.
func TestEvalAndOwnerLeaveAllElse(t *testing.T) {
	for _, one := range []string{"eval n 1 1", "eval n+ 1 1", "owner 3 6", "owner 0 0", "check", "all"} {
		if alone, among := last(t, one), last(t, with(started(), one)...); alone != among && one != "check" && one != "all" {
			t.Errorf("%q is answered %q alone, %q behind others", one, alone, among)
		}
		got := answers(t, with(started(), one, "written", "lag", "trigger", "check", "all")...)
		if at := len(started()) + 1; strings.Join(got[at:], "\n") != doubled+"\n0\n2\nok\n"+doubled {
			t.Errorf("behind %q there are %q", one, got[at:])
		}
	}
}
