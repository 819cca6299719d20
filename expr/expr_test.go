package expr_test

import (
	"math"
	"strings"
	"testing"

	"weirgate/api"
	"weirgate/expr"
	"weirgate/plain"
)

func wantValue(t *testing.T, text string, n, s, want int) {
	t.Helper()
	got, err := expr.Eval(text, n, s)
	if got != want || err != nil {
		t.Errorf("Eval(%q, %d, %d) is %d, %v, want %d", text, n, s, got, err, want)
	}
}

// wantFault holds all three calls against one fault.
func wantFault(t *testing.T, text string, place int, want api.Errno) {
	t.Helper()
	if at, err := expr.Check(text); at != place || plain.Told(err) != want {
		t.Errorf("Check(%q) is %d, %v, want %d, %v", text, at, err, place, want)
	}
	if out, err := expr.Print(text); out != "" || plain.Told(err) != want {
		t.Errorf("Print(%q) is %q, %v, want nothing, %v", text, out, err, want)
	}
	if got, err := expr.Eval(text, 7, 9); got != 0 || plain.Told(err) != want {
		t.Errorf("Eval(%q) is %d, %v, want 0, %v", text, got, err, want)
	}
}

func wantRight(t *testing.T, text string) {
	t.Helper()
	if at, err := expr.Check(text); at != 0 || err != nil {
		t.Errorf("Check(%q) is %d, %v, want 0, nil", text, at, err)
	}
}

func wantPrint(t *testing.T, text, want string) {
	t.Helper()
	if got, err := expr.Print(text); got != want || err != nil {
		t.Errorf("Print(%q) is %q, %v, want %q", text, got, err, want)
	}
	if again, err := expr.Print(want); again != want || err != nil {
		t.Errorf("Print(%q) is %q, %v, want it as it is", want, again, err)
	}
}

func TestChapterExample(t *testing.T) {
	wantValue(t, "n>3?n*2:-s", 5, 1, 10)
	wantPrint(t, "((n)+(1))*(2)", "(n+1)*2")
	wantFault(t, "n+", 2, api.ErrSyntax)
}

// E1

func TestEvalEachOperator(t *testing.T) {
	for _, c := range []struct {
		text       string
		n, s, want int
	}{
		{"0", 5, 6, 0}, {"10", 5, 6, 10}, {"120", 5, 6, 120},
		{"n", 5, 6, 5}, {"s", 5, 6, 6}, {"(n)", 5, 6, 5}, {"((s))", 5, 6, 6},
		{"n+s", 5, 6, 11}, {"n-s", 5, 6, -1}, {"n*s", 5, 6, 30}, {"n/s", 17, 5, 3}, {"n%s", 17, 5, 2},
		{"n=s", 5, 5, 1}, {"n=s", 5, 6, 0}, {"n=s", 6, 5, 0},
		{"n<s", 5, 5, 0}, {"n<s", 5, 6, 1}, {"n<s", 6, 5, 0}, {"n<s", -1, 1, 1},
		{"n>s", 5, 5, 0}, {"n>s", 5, 6, 0}, {"n>s", 6, 5, 1}, {"n>s", 1, -1, 1},
		{"-n", 5, 0, -5}, {"--n", 5, 0, 5}, {"---n", 5, 0, -5}, {"-0", 5, 0, 0}, {"-12", 0, 0, -12},
		{"min(n,s)", 5, 6, 5}, {"min(n,s)", 6, 5, 5}, {"min(n,s)", -5, -6, -6}, {"min(n,s)", 5, 5, 5},
		{"max(n,s)", 5, 6, 6}, {"max(n,s)", 6, 5, 6}, {"max(n,s)", -5, -6, -5}, {"max(n,s)", 5, 5, 5},
		{"n?2:3", 1, 0, 2}, {"n?2:3", -1, 0, 2}, {"n?2:3", 256, 0, 2}, {"n?2:3", 1 << 40, 0, 2}, {"n?2:3", 0, 1, 3},
	} {
		wantValue(t, c.text, c.n, c.s, c.want)
	}
}

func TestEvalWhatBindsCloser(t *testing.T) {
	for _, c := range []struct {
		text string
		want int
	}{
		{"2+3*4", 14}, {"2*3+4", 10}, {"2-6/3", 0}, {"6/3-2", 0}, {"1+7%4", 4}, {"7%4+1", 4},
		{"(2+3)*4", 20}, {"2*(3+4)", 14}, {"6/(3-2)", 6}, {"(1+7)%4", 0},
		{"1+2=3", 1}, {"3=1+2", 1}, {"1+(2=3)", 1}, {"(3=1)+2", 2},
		{"2<1+2", 1}, {"2+1<2", 0}, {"2+(1<2)", 3}, {"2>1*3", 0}, {"(2>1)*3", 3},
		{"0=1?2:3", 3}, {"0=(1?2:3)", 0}, {"1<2?3:4", 3}, {"5>(0?3:4)", 1},
		{"1?2:3+4", 2}, {"(1?2:3)+4", 6}, {"1?2:3=2", 2}, {"(1?2:3)=2", 1}, {"0?2:3*4", 12},
		{"1+0?2:3", 2}, {"1+(0?2:3)", 4},
		{"-2+3", 1}, {"-(2+3)", -5}, {"-2*3", -6}, {"2*-3", -6}, {"2--3", 5}, {"2---3", -1}, {"2+-3", -1},
		{"-7%4", -3}, {"-(7%4)", -3}, {"-3/2", -1}, {"-2=2", 0}, {"-(2=2)", -1}, {"-0?2:3", 3}, {"-1?2:3", 2}, {"-(1?2:3)", -2},
		{"-min(1,2)+1", 0}, {"min(1,2)*3", 3}, {"2*max(3,4)", 8}, {"min(1+4,2*2)", 4}, {"max(1<2,3?4:5)", 4},
		{"min(max(1,5),max(3,2))", 3}, {"max(-1,--2)", 2}, {"min((7),(8))", 7},
	} {
		wantValue(t, c.text, 0, 0, c.want)
	}
}

func TestEvalFromTheLeft(t *testing.T) {
	for _, c := range []struct {
		text string
		want int
	}{
		{"10-4-3", 3}, {"10-(4-3)", 9}, {"10-4+3", 9}, {"10-(4+3)", 3},
		{"100/10/5", 2}, {"100/(10/5)", 50}, {"100/10*5", 50}, {"100/(10*5)", 2},
		{"17%10%4", 3}, {"17%(10%4)", 1}, {"7*5%4", 3}, {"7*(5%4)", 7}, {"7%5*4", 8}, {"7/2*2", 6}, {"7%4/2", 1},
		{"1-2-3-4", -8},
	} {
		wantValue(t, c.text, 0, 0, c.want)
	}
}

func TestEvalChoiceInChoice(t *testing.T) {
	third := "n?1:s?2:3"
	second := "n?s?1:2:3"
	both := "n?s?1:2:s?3:4"
	for _, c := range [][5]int{
		// n, s, and what the three come to
		{1, 1, 1, 1, 1}, {1, 0, 1, 2, 2}, {0, 1, 2, 3, 3}, {0, 0, 3, 3, 4},
	} {
		wantValue(t, third, c[0], c[1], c[2])
		wantValue(t, second, c[0], c[1], c[3])
		wantValue(t, both, c[0], c[1], c[4])
	}
	wantValue(t, "(0?1:0)?5:6", 0, 0, 6)
	wantValue(t, "0?1:0?5:6", 0, 0, 6)
	wantValue(t, "(1?1:0)?5:6", 0, 0, 5)
	wantValue(t, "1?1:0?5:6", 0, 0, 1)
}

func TestEvalModulo(t *testing.T) {
	const low, high = math.MinInt, math.MaxInt
	for _, c := range []struct {
		text       string
		n, s, want int
	}{
		{"9223372036854775807", 0, 0, high}, {"-9223372036854775807", 0, 0, -high}, {"-9223372036854775807-1", 0, 0, low},
		{"9223372036854775807+1", 0, 0, low}, {"9223372036854775807*2", 0, 0, -2}, {"9223372036854775807*9223372036854775807", 0, 0, 1},
		{"n", low, 0, low}, {"s", 0, high, high},
		{"n+s", high, 1, low}, {"n+s", high, high, -2}, {"n+s", low, low, 0}, {"n+s", low, -1, high},
		{"n-s", low, 1, high}, {"n-s", 0, low, low}, {"n-s", high, low, -1},
		{"n*s", low, low, 0}, {"n*s", low, -1, low}, {"n*s", low, 3, low}, {"n*s", high, 3, high - 2}, {"n*s", 1 << 32, 1 << 32, 0},
		{"n*s", 1 << 31, 1 << 32, low}, {"n*s", 3037000500, 3037000500, -9223372036709301616},
		{"-n", low, 0, low}, {"--n", low, 0, low}, {"-n", high, 0, -high},
		{"n<s", low, high, 1}, {"n>s", low, high, 0}, {"n=s", low, high, 0}, {"n<s", high, low, 0}, {"n>s", high, low, 1},
		{"n-s<0", low, 1, 0}, {"min(n,s)", low, high, low}, {"max(n,s)", low, high, high}, {"n?1:2", low, 0, 1},
		{"n/s", low, -1, low}, {"n%s", low, -1, 0}, {"n/s", low, 1, low}, {"n%s", low, 1, 0}, {"n/s", high, -1, -high},
		{"n/s", low, low, 1}, {"n%s", low, low, 0}, {"n/s", high, low, 0}, {"n%s", high, low, high}, {"n/s", low, high, -1}, {"n%s", low, high, -1},
		{"n/s", low, 2, low / 2}, {"n%s", low, 10, -8},
	} {
		wantValue(t, c.text, c.n, c.s, c.want)
	}
}

func TestEvalQuotientAndRest(t *testing.T) {
	for _, c := range [][4]int{
		// n, s, n/s, n%s
		{7, 2, 3, 1}, {-7, 2, -3, -1}, {7, -2, -3, 1}, {-7, -2, 3, -1},
		{6, 3, 2, 0}, {-6, 3, -2, 0}, {1, 2, 0, 1}, {-1, 2, 0, -1}, {1, -2, 0, 1}, {-1, -2, 0, -1}, {0, 5, 0, 0}, {0, -5, 0, 0},
		{7, 0, 0, 0}, {-7, 0, 0, 0}, {0, 0, 0, 0}, {math.MinInt, 0, 0, 0}, {math.MaxInt, 0, 0, 0},
	} {
		wantValue(t, "n/s", c[0], c[1], c[2])
		wantValue(t, "n%s", c[0], c[1], c[3])
	}
	wantValue(t, "1/0", 0, 0, 0)
	wantValue(t, "5%0+1", 0, 0, 1)
	wantValue(t, "n/(s-s)?1:2", 4, 3, 2)
}

// E2, Check

func TestCheckRight(t *testing.T) {
	for _, text := range []string{
		"0", "9", "10", "100000", "n", "s", "-n", "-0", "----n", "(n)", "n-0", "0-0", "min(n,s)", "max(0,0)",
		"9223372036854775807", "-9223372036854775807", "n?s:1", "n=s?n<s:n>s", "(n=s)=(n<s)", "(n=1)=2", "1=(n=2)",
		"n+1=2?3:4", "n?n=1:n=2", "n?1=2:3=4", "min(1=2,3=4)", "min(n=1,n)=max(2,n>2)", "-(n=1)=-(2>3)", "1-(2=3)=4",
	} {
		wantRight(t, text)
	}
}

func TestCheckLongest(t *testing.T) {
	longest := strings.Repeat("n+", api.MaxText/2-1) + "10"
	if len(longest) != api.MaxText {
		t.Fatalf("%d bytes are not the most", len(longest))
	}
	wantRight(t, longest)
	wantPrint(t, longest, longest)
	wantValue(t, longest, 2, 0, 2*59+10)
	wantFault(t, longest+"0", 0, api.ErrFull)
	wantFault(t, longest[:118]+"n+", 120, api.ErrSyntax)
}

// Too many bytes are told ahead of whatever else is wrong with them.
func TestCheckTooLong(t *testing.T) {
	for _, text := range []string{
		strings.Repeat("n", 121), strings.Repeat(" ", 121), strings.Repeat("(", 121), strings.Repeat("1", 121),
		"?" + strings.Repeat("n", 1000), strings.Repeat("n+", 60) + "n", strings.Repeat("\xff", 1<<16),
	} {
		wantFault(t, text, 0, api.ErrFull)
	}
	wantFault(t, strings.Repeat("n", 120), 1, api.ErrSyntax)
	wantFault(t, strings.Repeat(" ", 120), 0, api.ErrSyntax)
	wantFault(t, strings.Repeat("(", 120), 20, api.ErrFull)
}

func TestCheckEndsTooEarly(t *testing.T) {
	for _, text := range []string{
		"", "-", "--", "(", "(n", "(n+", "-(", "n+", "n-", "n*", "n/", "n%", "n=", "n<", "n>", "n?", "n?1", "n?1:", "n?1?2:3",
		"n?1:2?3", "min(", "min(n", "min(n,", "min(n,s", "max(", "max(n", "max(n,", "max(n,s", "n+-", "((n)", "min((n),s",
	} {
		wantFault(t, text, len(text), api.ErrSyntax)
	}
}

func TestCheckCannotStandThere(t *testing.T) {
	for _, c := range []struct {
		text  string
		place int
	}{
		{")", 0}, {",", 0}, {"?", 0}, {":", 0}, {"+", 0}, {"*", 0}, {"/", 0}, {"%", 0}, {"=", 0}, {"<", 0}, {">", 0}, {"+n", 0},
		{"n)", 1}, {"n,s", 1}, {"n:s", 1}, {"(n))", 3}, {"()", 1}, {"(n,s)", 2}, {"(n:s)", 2}, {"(n?1)", 4}, {"n(", 1}, {"n(s)", 1}, {"(n)(s)", 3},
		{"(n)n", 3}, {"(n)1", 3}, {"nn", 1}, {"ns", 1}, {"sn", 1}, {"n1", 1}, {"1n", 1}, {"2s", 1}, {"12(", 2},
		{"n++s", 2}, {"n-+s", 2}, {"n*/s", 2}, {"n**s", 2}, {"n*+s", 2}, {"n==s", 2}, {"n<=s", 2}, {"n>=s", 2}, {"n<>s", 2}, {"n=>s", 2},
		{"n-*s", 2}, {"-+n", 1}, {"-*n", 1}, {"-)", 1}, {"n+)", 2}, {"n?:1", 2}, {"n??1:2", 2}, {"n?1::2", 4}, {"n?1:2:3", 5}, {"n?1:)", 4}, {"n?)", 2},
		{"n?1,2", 3}, {"n?1)2", 3}, {"(n?1:2:3)", 6}, {"n?(1:2)", 4}, {"min(n?1,2)", 7}, {"min(1:2)", 5}, {"min(n,s:1)", 7},
		{"min()", 4}, {"min(,n)", 4}, {"min(n)", 5}, {"min(n,)", 6}, {"min(n,s,1)", 7}, {"min(n,,s)", 6}, {"min(n;s)", 5}, {"max(n)", 5}, {"max(n,s,1)", 7},
		{"min(n,(s)", 9}, {"max(n,s)n", 8}, {"max(n,s)(", 8}, {"nmin(1,2)", 1}, {"-smin(2%2", 2}, {"1max(n,s)", 1}, {"(n)min(1,2)", 3},
		{"-21,(9223372036854775807)", 3}, {"n!", 1}, {"!n", 0}, {"n&s", 1}, {"n^2", 1}, {"~n", 0}, {"n~", 1}, {"1.5", 1}, {".5", 0}, {"1e3", 1}, {"0x1", 1}, {"1_0", 1},
		{"N", 0}, {"S", 0}, {"m", 0}, {"M", 0}, {"a", 0}, {"n+M", 2}, {"[n]", 0}, {"{n}", 0},
		{"\x00", 0}, {"n\x00", 1}, {"n+\x00", 2}, {"\xff", 0}, {"n\xff", 1}, {"ñ", 0}, {"nñ", 1}, {"\u0661", 0}, {"n+\u0661", 2}, {"−n", 0},
	} {
		wantFault(t, c.text, c.place, api.ErrSyntax)
	}
}

func TestCheckThirdOperand(t *testing.T) {
	for _, first := range []string{"=", "<", ">"} {
		for _, second := range []string{"=", "<", ">"} {
			wantFault(t, "n"+first+"s"+second+"1", 3, api.ErrSyntax)
			wantFault(t, "(n"+first+"s"+second+"1)", 4, api.ErrSyntax)
			wantFault(t, "n+1"+first+"s*2"+second+"1", 7, api.ErrSyntax)
			wantFault(t, "n?1"+first+"s"+second+"1:2", 5, api.ErrSyntax)
			wantFault(t, "n?1:2"+first+"s"+second+"1", 7, api.ErrSyntax)
			wantRight(t, "(n"+first+"s)"+second+"1")
			wantRight(t, "n"+first+"(s"+second+"1)")
		}
	}
}

func TestCheckNeedlessZero(t *testing.T) {
	for _, c := range []struct {
		text  string
		place int
	}{
		{"00", 1}, {"01", 1}, {"09", 1}, {"000", 1}, {"0123", 1}, {"-01", 2}, {"n+00", 3}, {"(01)", 2}, {"min(00,1)", 5}, {"min(0,01)", 7}, {"n?01:2", 3}, {"n?0:01", 5},
	} {
		wantFault(t, c.text, c.place, api.ErrSyntax)
	}
	for _, text := range []string{"0", "10", "100", "-0", "n+0", "0+0", "0?0:0"} {
		wantRight(t, text)
	}
}

func TestCheckBlank(t *testing.T) {
	for _, blank := range []string{" ", "\t", "\n", "\r", "\u00a0"} {
		for _, c := range []struct {
			ahead, behind string
		}{
			{"", "n"}, {"n", ""}, {"n", "+s"}, {"n+", "s"}, {"-", "n"}, {"(", "n)"}, {"(n", ")"}, {"min(", "n,s)"}, {"min(n", ",s)"}, {"min(n,", "s)"}, {"1", "2"},
			{"n", "?1:2"}, {"n?", "1:2"}, {"n?1", ":2"}, {"n?1:", "2"},
		} {
			wantFault(t, c.ahead+blank+c.behind, len(c.ahead), api.ErrSyntax)
		}
		wantFault(t, "n+min"+blank+"(n,s)", 2, api.ErrSyntax)
		wantFault(t, "n+m"+blank+"in(n,s)", 2, api.ErrSyntax)
	}
}

func TestCheckTooManyDigits(t *testing.T) {
	for _, digits := range []string{
		"9223372036854775808", "9223372036854775809", "9999999999999999999", "10000000000000000000",
		"18446744073709551615", "18446744073709551616", "18446744073709551617", "92233720368547758070", strings.Repeat("1", 100),
	} {
		wantFault(t, digits, 0, api.ErrSyntax)
		wantFault(t, "-"+digits, 1, api.ErrSyntax)
		wantFault(t, "n+"+digits+"+", 2, api.ErrSyntax)
		wantFault(t, "(n*"+digits, 3, api.ErrSyntax)
		wantFault(t, "min("+digits+",n)", 4, api.ErrSyntax)
		wantFault(t, digits+"n", 0, api.ErrSyntax)
		wantFault(t, "n"+digits, 1, api.ErrSyntax)
	}
}

func TestCheckWordNotWhole(t *testing.T) {
	for _, word := range []string{
		"m", "mi", "min", "ma", "max", "mn(n,s)", "mi(n,s)", "mix(n,s)", "man(n,s)", "minn(n,s)", "maxx(n,s)", "min[n,s]", "min)", "max,", "min)n,s(", "m(n,s)", "min+1", "max?1:2",
		"Min(n,s)", "MAX(n,s)", "miN(n,s)", "abs(n)", "x", "in(n,s)", "ax(n,s)", "m1n(n,s)", "mi\x00", "min\xff(",
	} {
		wantFault(t, word, 0, api.ErrSyntax)
		wantFault(t, "n+"+word, 2, api.ErrSyntax)
		wantFault(t, "-("+word, 2, api.ErrSyntax)
		wantFault(t, "max(n,"+word, 6, api.ErrSyntax)
		wantFault(t, "n?1:"+word, 4, api.ErrSyntax)
	}
}

// level is a sign that makes one: what stands ahead of it, the sign with all up
// to what is within, and what ends that.
type level struct {
	ahead, opened, closed string
}

func levels() []level {
	return []level{
		{"", "(", ")"},
		{"", "min(", ",s)"}, {"", "min(s,", ")"},
		{"", "max(", ",s)"}, {"", "max(s,", ")"},
		{"", "-", ""},
		{"n", "?", ":s"},
		{"n?s", ":", ""},
	}
}

// deepest are MaxDeep levels: as many of one kind as a text has room for, the
// others brackets.
func deepest(l level) (string, string) {
	many := min(api.MaxDeep, 70/len(l.ahead+l.opened+l.closed))
	brackets := api.MaxDeep - many
	return strings.Repeat("(", brackets) + strings.Repeat(l.ahead+l.opened, many),
		strings.Repeat(l.closed, many) + strings.Repeat(")", brackets)
}

func TestCheckDeepest(t *testing.T) {
	for _, l := range levels() {
		opened, closed := deepest(l)
		wantRight(t, opened+"n"+closed)
		wantRight(t, opened+"10"+closed)
		wantFault(t, opened, len(opened), api.ErrSyntax)
		wantFault(t, opened+"*", len(opened), api.ErrSyntax)
		wantFault(t, opened+"min", len(opened), api.ErrSyntax)
		wantFault(t, opened+"mix(", len(opened), api.ErrSyntax)
		wantFault(t, opened+"n n", len(opened)+1, api.ErrSyntax)
	}
}

// Whatever makes MaxDeep levels, whatever makes one more is wrong at its place.
func TestCheckOneLevelMore(t *testing.T) {
	for _, outer := range levels() {
		opened, closed := deepest(outer)
		for _, inner := range levels() {
			if outer.opened == "-" && inner.ahead != "" {
				continue // a - ahead has no ? within it without a bracket
			}
			place := len(opened + inner.ahead)
			if inner.opened == ":" {
				place = len(opened + "n") // the ? ahead of it makes as many
			}
			more := opened + inner.ahead + inner.opened
			wantFault(t, more, place, api.ErrFull)
			wantFault(t, more+"n"+inner.closed+closed, place, api.ErrFull)
			wantFault(t, more+" ) 00", place, api.ErrFull)
		}
	}
}

// A level is left again behind what is within it.
func TestCheckLevelsSideBySide(t *testing.T) {
	for _, text := range []string{
		strings.Repeat("(n)+", 29) + "(n)",
		strings.Repeat("-n-", 39) + "-n",
		strings.Repeat("min(n,1)*", 13) + "2",
		strings.Repeat("max(n,1)*", 13) + "2",
		strings.Repeat("(", 20) + "n" + strings.Repeat(")", 20) + "-" + strings.Repeat("-", 20) + "n",
		strings.Repeat("(", 20) + "n" + strings.Repeat(")", 20) + "?" + strings.Repeat("-", 19) + "n:" + strings.Repeat("-", 19) + "n",
		"n?" + strings.Repeat("-", 19) + "n:" + strings.Repeat("(", 19) + "n" + strings.Repeat(")", 19),
		"min(" + strings.Repeat("-", 19) + "n," + strings.Repeat("(", 19) + "n" + strings.Repeat(")", 19) + ")",
		strings.Repeat("-", 20) + "n?1:2",
		strings.Repeat("-", 20) + "n-n",
		"n?" + strings.Repeat("-", 19) + "n?1:2:3",
	} {
		wantRight(t, text)
	}
	wantFault(t, "n?"+strings.Repeat("-", 20)+"n:1", 21, api.ErrFull)
	wantFault(t, "n?1:"+strings.Repeat("-", 20)+"n", 23, api.ErrFull)
	wantFault(t, "n-"+strings.Repeat("-", 21)+"n", 22, api.ErrFull)
	wantFault(t, "(n)+min(n,s)+"+strings.Repeat("(", 21), 33, api.ErrFull)
	wantFault(t, "min(n,"+strings.Repeat("(", 20), 25, api.ErrFull)
	wantFault(t, strings.Repeat("n?", 21), 41, api.ErrFull)
	wantFault(t, strings.Repeat("n?1:", 21), 81, api.ErrFull)
	wantFault(t, strings.Repeat("(", 20)+"-n", 20, api.ErrFull)
	wantRight(t, strings.Repeat("(", 20)+"n-n"+strings.Repeat(")", 20))
}

func TestCheckFirstFromTheLeft(t *testing.T) {
	open := strings.Repeat("(", 21)
	for _, c := range []struct {
		text  string
		place int
		want  api.Errno
	}{
		{"n+*" + open, 2, api.ErrSyntax},
		{open + "*", 20, api.ErrFull},
		{"01+mi", 1, api.ErrSyntax},
		{"mi+01", 0, api.ErrSyntax},
		{"n=s=99999999999999999999", 3, api.ErrSyntax},
		{"n=99999999999999999999=s", 2, api.ErrSyntax},
		{"99999999999999999999 ", 0, api.ErrSyntax},
		{" 99999999999999999999", 0, api.ErrSyntax},
		{"n n" + open, 1, api.ErrSyntax},
		{strings.Repeat("-", 21) + " ", 20, api.ErrFull},
		{strings.Repeat("-", 20) + " -", 20, api.ErrSyntax},
		{"0" + "9223372036854775808", 1, api.ErrSyntax},
	} {
		wantFault(t, c.text, c.place, c.want)
	}
}

// E2, Print

func TestPrintNeedlessBrackets(t *testing.T) {
	for _, c := range [][2]string{
		{"n", "n"}, {"(n)", "n"}, {"((69))", "69"}, {"(((s)))", "s"}, {"(0)", "0"}, {"(9223372036854775807)", "9223372036854775807"},
		{"(n+s)", "n+s"}, {"(n?1:2)", "n?1:2"}, {"(-n)", "-n"}, {"-(n)", "-n"}, {"-(-n)", "--n"}, {"(-(-(n)))", "--n"}, {"-(1)", "-1"}, {"(-1)", "-1"},
		{"(n+1)+2", "n+1+2"}, {"(n-1)-2", "n-1-2"}, {"(n-1)+2", "n-1+2"}, {"(n*1)*2", "n*1*2"}, {"(n/1)%2", "n/1%2"},
		{"(n*1)+2", "n*1+2"}, {"n+(1*2)", "n+1*2"}, {"n-(1/2)", "n-1/2"}, {"n-(-s)", "n--s"}, {"n*(-s)", "n*-s"}, {"(-n)*s", "-n*s"}, {"(-n)-(-s)", "-n--s"},
		{"(n+1)=(s*2)", "n+1=s*2"}, {"(n=1)?2:3", "n=1?2:3"}, {"n?(1):(2)", "n?1:2"}, {"n?(s?1:2):(s?3:4)", "n?s?1:2:s?3:4"}, {"n?(1=2):(3<4)", "n?1=2:3<4"},
		{"min((n),(s))", "min(n,s)"}, {"max((n?1:2),(n=s))", "max(n?1:2,n=s)"}, {"(min(n,s))", "min(n,s)"}, {"-(max(n,s))", "-max(n,s)"}, {"2*(min(n,s))", "2*min(n,s)"},
		{"(min(n,s)+1)", "min(n,s)+1"}, {"((n)+(1))*(2)", "(n+1)*2"}, {"((n+1))*2", "(n+1)*2"}, {"-((n+1))", "-(n+1)"},
	} {
		wantPrint(t, c[0], c[1])
	}
}

func TestPrintBracketsThatHaveToBe(t *testing.T) {
	for _, text := range []string{
		"n+(1+2)", "n+(1-2)", "n-(1+2)", "n-(1-2)", "n*(1*2)", "n*(1/2)", "n/(1*2)", "n/(1/2)", "n%(1%2)", "n*(1%2)",
		"(n+1)*2", "(n-1)/2", "(n+1)%2", "n*(1+2)", "n/(1-2)", "-(n+1)", "-(n*1)", "-(n%2)", "-(n=1)", "-(n?1:2)",
		"(n=1)+2", "n+(1=2)", "(n<1)*2", "n*(1>2)", "(n=1)=2", "n=(1=2)", "(n<1)>2", "n<(1>2)",
		"(n?1:2)?3:4", "(n?1:2)+3", "3+(n?1:2)", "(n?1:2)*3", "3*(n?1:2)", "(n?1:2)=3", "3=(n?1:2)",
	} {
		wantPrint(t, text, text)
	}
}

func TestPrintDeepest(t *testing.T) {
	wantPrint(t, strings.Repeat("(", 20)+"n"+strings.Repeat(")", 20), "n")
	wantPrint(t, strings.Repeat("-", 20)+"n", strings.Repeat("-", 20)+"n")
	wantPrint(t, strings.Repeat("-(", 10)+"n"+strings.Repeat(")", 10), strings.Repeat("-", 10)+"n")
	wantPrint(t, strings.Repeat("n?", 20)+"1"+strings.Repeat(":2", 20), strings.Repeat("n?", 20)+"1"+strings.Repeat(":2", 20))
	wantPrint(t, strings.Repeat("n-(", 20)+"n"+strings.Repeat(")", 20), strings.Repeat("n-(", 19)+"n-n"+strings.Repeat(")", 19))
}
