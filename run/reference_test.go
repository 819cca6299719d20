package run_test

import (
	"bytes"
	"fmt"
	"math/rand"
	"regexp"
	"strconv"
	"strings"
	"testing"

	"weirgate/api"
	"weirgate/audit"
	"weirgate/den"
	"weirgate/engine"
	"weirgate/expr"
	"weirgate/group"
	"weirgate/job"
	"weirgate/plain"
	"weirgate/run"
)

// A second way: each row is a pattern of a whole line, and the calls of the
// chapters are made as its parts say, with what was put kept as lists of words.

const (
	num  = `(0|-?[1-9][0-9]{0,8})`
	list = `(-|` + num + `(?:,` + num + `)*)`
	word = `([^ ]*)`
)

var (
	nodeRow  = row("node", num, list, num, word)
	putRow   = row("put", "([0-3])", word, num, num)
	startRow = row("start", num)
	stepsRow = row("steps", num, num)
	crashRow = row("crash", num)
	evalRow  = row("eval", word, num, num)
	ownerRow = row("owner", num, num)
)

// row is the pattern of a line: whatever the bytes of a word are, there is one
// blank between, and nothing at either end.
func row(words ...string) *regexp.Regexp {
	return regexp.MustCompile(`(?s)\A` + strings.Join(words, " ") + `\z`)
}

type second struct {
	nodes [][]string // the words of each
	puts  [][]string
	is    *engine.Engine
}

func toNum(word string) int {
	n, err := strconv.Atoi(word)
	if err != nil {
		panic(err)
	}
	return n
}

func (s *second) job() []api.Node {
	var l []api.Node
	for _, words := range s.nodes {
		one := api.Node{Kind: toNum(words[0]), N: toNum(words[2]), Text: words[3]}
		if one.Text == "-" {
			one.Text = ""
		}
		if words[1] != "-" {
			for _, from := range strings.Split(words[1], ",") {
				one.From = append(one.From, toNum(from))
			}
		}
		l = append(l, one)
	}
	return l
}

// data are as many lists as the job has nodes that are Sources, be it right or
// not.
func (s *second) data() [][]api.Record {
	var all [][]api.Record
	for _, words := range s.nodes {
		if toNum(words[0]) != api.Source {
			continue
		}
		var l []api.Record
		for _, put := range s.puts {
			if toNum(put[0]) == len(all) {
				l = append(l, api.Record{Key: put[1], Num: toNum(put[2]), Time: toNum(put[3])})
			}
		}
		all = append(all, l)
	}
	return all
}

func written(all [][]api.Line) string {
	var b bytes.Buffer
	for i, sink := range all {
		if i > 0 {
			b.WriteByte(';')
		}
		if len(sink) == 0 {
			b.WriteByte('-')
		}
		for j, line := range sink {
			if j > 0 {
				b.WriteByte(' ')
			}
			b.WriteString(line.Key)
			for k, num := range line.Nums {
				fmt.Fprintf(&b, "%c%d", "=,"[min(k, 1)], num)
			}
		}
	}
	return b.String()
}

func orName(answer any, err error) string {
	if err != nil {
		return plain.Told(err).Error()
	}
	return fmt.Sprint(answer)
}

func (s *second) answer(line string) string {
	if w := nodeRow.FindStringSubmatch(line); w != nil {
		s.nodes, s.is = append(s.nodes, []string{w[1], w[2], w[5], w[6]}), nil
		return fmt.Sprint(len(s.nodes))
	}
	if w := putRow.FindStringSubmatch(line); w != nil {
		s.puts, s.is = append(s.puts, w[1:]), nil
		return "ok"
	}
	if w := evalRow.FindStringSubmatch(line); w != nil {
		return orName(expr.Eval(w[1], toNum(w[2]), toNum(w[3])))
	}
	if w := ownerRow.FindStringSubmatch(line); w != nil {
		return orName(group.Owner(toNum(w[1]), toNum(w[2])))
	}
	if line == "check" {
		return orName("ok", job.Check(s.job()))
	}
	if line == "all" {
		got, err := den.All(s.job(), s.data())
		return orName(written(got), err)
	}
	if w := startRow.FindStringSubmatch(line); w != nil {
		is, err := engine.New(s.job(), s.data(), toNum(w[1]))
		if err == nil {
			s.is = is
		}
		return orName("ok", err)
	}
	return s.ofEngine(line)
}

func (s *second) ofEngine(line string) string {
	steps, crash := stepsRow.FindStringSubmatch(line), crashRow.FindStringSubmatch(line)
	if steps == nil && crash == nil && line != "trigger" && line != "written" && line != "lag" {
		return "bad"
	}
	switch {
	case s.is == nil:
		return "ErrState"
	case crash != nil:
		return orName("ok", s.is.Crash(toNum(crash[1])))
	case line == "trigger":
		return orName(s.is.Trigger())
	case line == "written":
		return written(s.is.Written())
	case line == "lag":
		return fmt.Sprint(s.is.Lag())
	}
	many := 0
	for range max(0, toNum(steps[1])) {
		if !s.is.Step(toNum(steps[2])) {
			break
		}
		many++
	}
	return fmt.Sprint(many)
}

func secondRun(text string) string {
	if len(text) > 3000 {
		return "too long\n"
	}
	s := &second{}
	var b strings.Builder
	pieces := strings.Split(text, "\n")
	for i, line := range pieces {
		if i < len(pieces)-1 || line != "" {
			b.WriteString(s.answer(line) + "\n")
		}
	}
	return b.String()
}

func pick(random *rand.Rand, from ...string) string { return from[random.Intn(len(from))] }

func thrownNum(random *rand.Rand) string {
	return pick(random, "0", "1", "2", "3", "7", "16", "17", "-1", "999999999", "-999999999", fmt.Sprint(random.Intn(30)-9))
}

// thrownNode is one that may stand behind so many, most often.
func thrownNode(random *rand.Rand, behind int) string {
	if behind == 0 || random.Intn(8) == 0 {
		return fmt.Sprintf("node 1 - %d -", 1+random.Intn(8))
	}
	from := fmt.Sprint(random.Intn(behind))
	text := pick(random, "n", "n+s", "n*2", "n%3", "n>2", "s*2-n", "0", "-n", "max(s,n)", "n*9223372036854775807")
	switch kind := 2 + random.Intn(9); kind {
	case api.Map, api.Filter, api.Sub, api.Fold:
		return fmt.Sprintf("node %d %s 0 %s", kind, from, text)
	case api.Copy:
		return fmt.Sprintf("node 5 %s %d %s", from, random.Intn(4), pick(random, "-", ""))
	case api.Union:
		for range random.Intn(4) {
			from += fmt.Sprint(",", random.Intn(behind))
		}
		return "node 6 " + from + " 0 -"
	case api.Every:
		return fmt.Sprintf("node 8 %s %d -", from, 1+random.Intn(4))
	default:
		return fmt.Sprintf("node %d %s 0 %s", kind, from, pick(random, "-", ""))
	}
}

func thrownPut(random *rand.Rand) string {
	key := pick(random, "a", "b", "c", "d", "", "-", "é", "a=1", strings.Repeat("k", 37+random.Intn(5)))
	if random.Intn(3) > 0 {
		key = pick(random, "a", "b", "c")
	}
	return fmt.Sprintf("put %d %s %d %d", random.Intn(3), key, random.Intn(12)-4, random.Intn(100)-random.Intn(2)*random.Intn(2)*random.Intn(2))
}

// thrownAsking is a line that changes neither the job nor its data.
func thrownAsking(random *rand.Rand) string {
	switch random.Intn(11) {
	case 0:
		return fmt.Sprintf("start %d", random.Intn(18))
	case 1, 2:
		return fmt.Sprintf("steps %d %d", random.Intn(20)-2, random.Intn(50)-10)
	case 3, 4:
		return "trigger"
	case 5:
		return fmt.Sprintf("crash %d", random.Intn(18))
	case 6:
		return "steps 100000 " + thrownNum(random)
	case 7:
		return fmt.Sprintf("eval %s %s %s", pick(random, "n", "s", "n-s*2", "n+", "", "n/s", "(n?s:1)"), thrownNum(random), thrownNum(random))
	case 8:
		return "owner " + thrownNum(random) + " " + thrownNum(random)
	}
	return pick(random, "written", "lag", "all", "check")
}

// spoiled is a line with one thing of it changed, which may be right even so.
func spoiled(random *rand.Rand, line string) string {
	at := random.Intn(len(line) + 1)
	switch random.Intn(5) {
	case 0:
		return line[:at]
	case 1:
		return line[:at] + pick(random, " ", "-", "0", ",", "9", "+", "x", "\x00", "\t", "1") + line[at:]
	case 2:
		return line[:at] + line[min(at+1, len(line)):]
	case 3:
		words := strings.Split(line, " ")
		words[random.Intn(len(words))] = pick(random, "", "-", "01", "-0", "1000000000", "0,", "n", "1,0", "lag", "7")
		return strings.Join(words, " ")
	}
	return line + pick(random, " ", " 1", " -", "x")
}

// thrown is a text: a job and data, with more that comes in between, as long
// as it may be at most.
func thrown(random *rand.Rand) string {
	var all []string
	nodes, size := 0, 0
	most := 1 + random.Intn(api.MaxRun)
	for {
		line := thrownAsking(random)
		switch {
		case nodes < 4 || random.Intn(100) == 0:
			line = thrownNode(random, min(nodes, 4))
			nodes++
		case nodes < 6:
			line = fmt.Sprintf("node 10 %d 0 -", random.Intn(4))
			nodes++
		case len(all) < 20 && random.Intn(6) > 0 || random.Intn(100) == 0:
			line = thrownPut(random)
		case strings.HasPrefix(all[len(all)-1], "put") || strings.HasPrefix(all[len(all)-1], "node"):
			line = fmt.Sprint("start ", 1+random.Intn(16))
		}
		if random.Intn(25) == 0 && (nodes == 6 || random.Intn(9) == 0) {
			line = spoiled(random, line)
		}
		size += len(line) + 1
		if size > most {
			break
		}
		all = append(all, line)
	}
	text := lines(all...)
	if text != "" && random.Intn(3) == 0 {
		text = text[:len(text)-1]
	}
	return text
}

func TestAgainstTheSecondWay(t *testing.T) {
	random := rand.New(rand.NewSource(1))
	names := map[string]int{}
	right := 0 // texts of which something is written
	for range 1500 {
		text := thrown(random)
		want := secondRun(text)
		if strings.Contains(want, "=") {
			right++
		}
		if got := run.Run(text); got != want {
			t.Fatalf("%q is answered %q, want %q", text, got, want)
		}
		for _, answer := range strings.Split(want, "\n") {
			names[answer]++
		}
	}
	if right < 700 {
		t.Errorf("only of %d texts something is written", right)
	}
	for _, name := range []string{"bad", "ok", "-", "0", "ErrRange", "ErrSyntax", "ErrShape", "ErrState"} {
		if names[name] < 30 {
			t.Errorf("%q is answered only %d times", name, names[name])
		}
	}
}

// Z2

// The answers to the first lines are the beginning of the answers to all,
// whether the last one of them is ended or not.
func TestFirstLines(t *testing.T) {
	random := rand.New(rand.NewSource(2))
	for range 20 {
		text := thrown(random)
		all := strings.SplitAfter(run.Run(text), "\n")
		pieces := strings.SplitAfter(text, "\n")
		for many := range pieces {
			first := strings.Join(pieces[:many], "")
			want := strings.Join(all[:many], "")
			if got := run.Run(first); got != want {
				t.Fatalf("%q is answered %q, the first %d lines of it %q", text, all, many, got)
			}
			if bare := strings.TrimSuffix(first, "\n"); many > 0 && pieces[many-1] != "\n" && run.Run(bare) != want {
				t.Fatalf("without its last byte %q is answered %q, want %q", first, run.Run(bare), want)
			}
		}
	}
}

// It holds up to the longest text, and says nothing beyond.
func TestFirstLinesOfTheLongestText(t *testing.T) {
	text := lines(with(started(), "written", "lag", "crash 3", "all")...)
	text += strings.Repeat("x", api.MaxRun-len(text)-1) + "\n"
	if len(text) != api.MaxRun {
		t.Fatalf("there are %d bytes", len(text))
	}
	all := run.Run(text)
	for at := range len(text) {
		if text[at] == '\n' && !strings.HasPrefix(all, run.Run(text[:at+1])) {
			t.Errorf("the first %d bytes are answered %q, all %q", at+1, run.Run(text[:at+1]), all)
		}
	}
	wantText(t, text+"\n", "too long\n")
}

// Exactly once, in texts (R4)

// read are the lines that an answer tells of each Sink.
func read(t *testing.T, answer string) [][]api.Line {
	t.Helper()
	var all [][]api.Line
	for _, sink := range strings.Split(answer, ";") {
		var l []api.Line
		for _, one := range strings.Fields(strings.TrimPrefix(sink, "-")) {
			key, nums, _ := strings.Cut(one, "=")
			line := api.Line{Key: key}
			for _, num := range strings.Split(nums, ",") {
				line.Nums = append(line.Nums, toNum(num))
			}
			l = append(l, line)
		}
		if err := audit.Check(l); err != nil {
			t.Fatalf("%q is %v", sink, err)
		}
		all = append(all, l)
	}
	return all
}

// thrownRun is a right job with data that goes on and breaks, and ends.
func thrownRun(random *rand.Rand) []string {
	for {
		var all []string
		for i := range 4 {
			all = append(all, thrownNode(random, i))
		}
		all = append(all, "node 10 3 0 -", fmt.Sprintf("node 10 %d 0 -", random.Intn(4)))
		for range 25 {
			all = append(all, fmt.Sprintf("put %d %c %d 0", random.Intn(2), 'a'+random.Intn(4), random.Intn(12)-4))
		}
		all = append(all, fmt.Sprint("start ", 1+random.Intn(16)))
		for range 50 {
			line := pick(random, "steps 5 ", "steps 9 ", "steps 20 ")
			all = append(all, pick(random, line+thrownNum(random), line+thrownNum(random), "trigger", "written"))
			if random.Intn(6) == 0 {
				all = append(all, fmt.Sprint("crash ", 1+random.Intn(16)))
			}
		}
		all = append(all, allSteps, "trigger", allSteps, "lag", "written", "all")
		if secondRun(lines(all[:6]...)+"check\n") == "1\n2\n3\n4\n5\n6\nok\n" && len(lines(all...)) <= api.MaxRun {
			return all
		}
	}
}

func TestExactlyOnce(t *testing.T) {
	random := rand.New(rand.NewSource(3))
	between := 0 // how often some is written, but not all
	for range 300 {
		asked := thrownRun(random)
		got := answers(t, asked...)
		ended := got[len(got)-3:]
		if ended[0] != "0" || ended[1] != ended[2] {
			t.Fatalf("at the end there are %q, of %q", ended, asked)
		}
		whole := read(t, ended[2])
		before := make([][]api.Line, len(whole))
		for i, line := range asked {
			if line != "written" {
				continue
			}
			now := read(t, got[i])
			for sink := range whole {
				if !den.Prefix(now[sink], whole[sink]) || !den.Prefix(before[sink], now[sink]) {
					t.Fatalf("line %d of %q tells %q, of %q", i, asked, got[i], ended[2])
				}
			}
			before = now
			if got[i] != "-;-" && got[i] != ended[2] {
				between++
			}
		}
	}
	if between < 500 {
		t.Errorf("only %d times some is written, but not all", between)
	}
}
