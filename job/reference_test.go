package job_test

import (
	"fmt"
	"math/rand"
	"reflect"
	"regexp"
	"strconv"
	"strings"
	"testing"

	"weirgate/api"
	"weirgate/expr"
	"weirgate/job"
	"weirgate/plain"
)

// A second way to the same answers: each rule of J1 by itself, over a node
// that need not hold the rules ahead of it, and J2's lines by a pattern.

func between(n, low, high int) bool { return low <= n && n <= high }

// faults are those of one node, in the order of J1.
func faults(l []api.Node, own int) []api.Errno {
	one := l[own]
	var all []api.Errno
	tell := func(wrong bool, err api.Errno) {
		if wrong {
			all = append(all, err)
		}
	}
	in := len(one.From)
	tell(!between(one.Kind, 1, 10), api.ErrRange)
	tell(one.Kind == 1 && in > 0, api.ErrShape)
	tell(one.Kind == 6 && (in == 0 || in > 4), api.ErrShape)
	tell(one.Kind != 1 && one.Kind != 6 && in != 1, api.ErrShape)
	for _, from := range one.From {
		right := between(from, 0, own-1)
		tell(!right, api.ErrRange)
		tell(right && l[from].Kind == 10, api.ErrState)
	}
	text := map[int]bool{2: true, 3: true, 4: true, 7: true}[one.Kind]
	ends, number := map[int][2]int{1: {1, 8}, 5: {0, 3}, 8: {1, 400}}[one.Kind]
	tell(one.Text != "" && !text, api.ErrShape)
	tell(one.N != 0 && !number, api.ErrShape)
	tell(number && !between(one.N, ends[0], ends[1]), api.ErrRange)
	if _, err := expr.Check(one.Text); text {
		tell(err != nil, plain.Told(err))
	}
	return all
}

// firstFault is that of the first node that has one, and its number; else
// ErrNone at the number of nodes, or OK at 0.
func firstFault(l []api.Node) (int, api.Errno) {
	kinds := map[int]bool{}
	for own, one := range l {
		if all := faults(l, own); len(all) > 0 {
			return own, all[0]
		}
		kinds[one.Kind] = true
	}
	if !kinds[1] || !kinds[10] {
		return len(l), api.ErrNone
	}
	return 0, api.OK
}

func pick(random *rand.Rand, from ...int) int { return from[random.Intn(len(from))] }

var someTexts = []string{"", "n", "n+s", "n+", strings.Repeat("-", 21) + "n", strings.Repeat("n", 121)}

// thrownNode is a right one in most of its parts.
func thrownNode(random *rand.Rand, own int) api.Node {
	one := api.Node{Kind: 1 + random.Intn(10)}
	in := 1
	switch one.Kind {
	case 1:
		in, one.N = 0, pick(random, 1, 8)
	case 2, 3, 4, 7:
		one.Text = someTexts[1+random.Intn(2)]
	case 5:
		one.N = pick(random, 0, 3)
	case 6:
		in = 1 + random.Intn(4)
	case 8:
		one.N = pick(random, 1, 400)
	}
	if random.Intn(12) == 0 {
		in = random.Intn(6)
	}
	for range in {
		one.From = append(one.From, random.Intn(max(own, 1)))
	}
	if in > 0 && random.Intn(12) == 0 {
		one.From[random.Intn(in)] = pick(random, -1, own, own+1)
	}
	if random.Intn(12) == 0 {
		one.N = pick(random, -1, 0, 1, 3, 4, 8, 9, 400, 401)
	}
	if random.Intn(12) == 0 {
		one.Text = someTexts[random.Intn(len(someTexts))]
	}
	if random.Intn(24) == 0 {
		one.Kind = pick(random, -1, 0, 11)
	}
	return one
}

func TestCheckBySecondWay(t *testing.T) {
	random := rand.New(rand.NewSource(3))
	seen := map[api.Errno]int{}
	for range 100_000 {
		l := []api.Node{source(1)}
		for own := 1; own <= 1+random.Intn(6); own++ {
			l = append(l, thrownNode(random, own))
		}
		_, want := firstFault(l)
		seen[want]++
		if got := plain.Told(job.Check(l)); got != want {
			t.Fatalf("Check(%v) is %v, want %v", l, got, want)
		}
		if want == api.OK {
			roundTrip(t, l)
		}
	}
	for _, err := range []api.Errno{api.OK, api.ErrRange, api.ErrSyntax, api.ErrShape, api.ErrFull, api.ErrNone, api.ErrState} {
		if seen[err] < 100 {
			t.Errorf("only %d jobs of %v were thrown", seen[err], err)
		}
	}
}

// roundTrip holds what is printed of a right job, and what is read of that.
func roundTrip(t *testing.T, l []api.Node) {
	t.Helper()
	text, err := job.Print(l)
	if err != nil {
		t.Fatalf("Print(%v) is %v", l, err)
	}
	again, at, err := job.Parse(text)
	if !reflect.DeepEqual(again, l) || at != 0 || err != nil {
		t.Fatalf("Parse(%q) is %v, %d, %v, want %v", text, again, at, err, l)
	}
}

var lineForm = regexp.MustCompile(strings.ReplaceAll(
	`^(?s:(source)( #)|(map|filter|sub|fold)( #) ([^ \n]*)|(copy|every)( #)( #)|(union)((?: #)*)|(first|sink)( #))\n$`,
	"#", `(?:0|[1-9][0-9]?[0-9]?)`))

// formOf is the node of a line, if it is one.
func formOf(line string) (api.Node, bool) {
	parts := lineForm.FindStringSubmatch(line)
	if parts == nil {
		return api.Node{}, false
	}
	var one api.Node
	word := parts[1] + parts[3] + parts[6] + parts[9] + parts[11]
	for i, name := range strings.Fields("source map filter sub copy union fold every first sink") {
		if name == word {
			one.Kind = i + 1
		}
	}
	one.Text = parts[5]
	for _, digits := range strings.Fields(parts[4] + parts[7] + parts[10] + parts[12]) {
		from, _ := strconv.Atoi(digits)
		one.From = append(one.From, from)
	}
	one.N, _ = strconv.Atoi(strings.TrimSpace(parts[2] + parts[8]))
	return one, true
}

func secondParse(text string) ([]api.Node, int, api.Errno) {
	var l []api.Node
	for i, line := range strings.SplitAfter(text, "\n") {
		if line == "" {
			break // behind the last end
		}
		one, ok := formOf(line)
		if !ok {
			return nil, i, api.ErrSyntax
		}
		if i == 12 {
			return nil, i, api.ErrFull
		}
		l = append(l, one)
		if at, err := firstFault(l); err != api.OK && at == i {
			return nil, at, err
		}
	}
	at, err := firstFault(l)
	if err != api.OK {
		l = nil
	}
	return l, at, err
}

var scraps = []string{" ", "\n", "0", "1", "9", "-", "n", "source 1\n", "sink 0\n", "union", " 0", "first 1\n", "", "", "\x00", "every 0 400\n", "999", "(", "map 0 s\n", "map 0 \n", "fold 9 \n"}

// disturbed is a text with a few scraps laid in, or over a byte or two.
func disturbed(random *rand.Rand, text string) string {
	for range random.Intn(4) {
		at := random.Intn(len(text) + 1)
		end := min(len(text), at+random.Intn(3))
		text = text[:at] + scraps[random.Intn(len(scraps))] + text[end:]
	}
	return text
}

func thrownText(random *rand.Rand) string {
	words := strings.Fields("source map filter sub copy union fold every first sink")
	var out strings.Builder
	out.WriteString("source 1\n")
	for own := 1; own <= 1+random.Intn(20); own++ {
		one := thrownNode(random, own)
		if !between(one.Kind, 1, 10) || random.Intn(3) > 0 {
			one = api.Node{Kind: api.First, From: []int{0}}
		}
		out.WriteString(words[one.Kind-1])
		for _, from := range one.From {
			fmt.Fprint(&out, " ", from)
		}
		if one.Kind == 1 || one.Kind == 5 || one.Kind == 8 {
			fmt.Fprint(&out, " ", one.N)
		}
		if text := map[int]bool{2: true, 3: true, 4: true, 7: true}[one.Kind]; text || one.Text != "" {
			fmt.Fprint(&out, " ", one.Text) // an empty one leaves a blank at the end
		}
		out.WriteString("\n")
	}
	if random.Intn(4) > 0 {
		out.WriteString("sink 0\n")
	}
	return disturbed(random, out.String())
}

func TestParseBySecondWay(t *testing.T) {
	random := rand.New(rand.NewSource(4))
	seen := map[api.Errno]int{}
	for range 100_000 {
		text := thrownText(random)
		want, line, wrong := secondParse(text)
		seen[wrong]++
		got, at, err := job.Parse(text)
		if !reflect.DeepEqual(got, want) || at != line || plain.Told(err) != wrong {
			t.Fatalf("Parse(%q) is %v, %d, %v, want %v, %d, %v", text, got, at, err, want, line, wrong)
		}
	}
	for _, err := range []api.Errno{api.OK, api.ErrRange, api.ErrSyntax, api.ErrShape, api.ErrFull, api.ErrNone, api.ErrState} {
		if seen[err] < 100 {
			t.Errorf("only %d texts of %v were thrown", seen[err], err)
		}
	}
}
