package job

import (
	"iter"
	"strconv"
	"strings"

	"weirgate/api"
)

// maxNumber is the greatest number of three digits, the most that a line has.
const maxNumber = 999

// names of the kinds; what is no kind has none.
var names = [...]string{
	api.Source: "source",
	api.Map:    "map",
	api.Filter: "filter",
	api.Sub:    "sub",
	api.Copy:   "copy",
	api.Union:  "union",
	api.Fold:   "fold",
	api.Every:  "every",
	api.First:  "first",
	api.Sink:   "sink",
}

// kindOf is the kind of that name, 0 if there is none: the empty word, too,
// is what stands at 0.
func kindOf(word string) int {
	for kind, name := range names {
		if name == word {
			return kind
		}
	}
	return 0
}

// Lines gives the lines of a text, without the byte that ends them, and
// whether it is there: the last one may have none.
func Lines(text string) iter.Seq2[string, bool] {
	return func(yield func(string, bool) bool) {
		for rest := text; rest != ""; {
			line, behind, ended := strings.Cut(rest, "\n")
			if !yield(line, ended) {
				return
			}
			rest = behind
		}
	}
}

// readNode tells which node a line is, if its words are those of its kind;
// whether such a node may stand there is Check's to say.
func readNode(line string) (api.Node, bool) {
	words := strings.Split(line, " ")
	one := api.Node{Kind: kindOf(words[0])}
	if one.Kind == 0 {
		return api.Node{}, false
	}
	from, own, ok := parted(one.Kind, words[1:])
	if !ok {
		return api.Node{}, false
	}
	for _, word := range from {
		number, ok := readNumber(word)
		if !ok {
			return api.Node{}, false
		}
		one.From = append(one.From, number)
	}
	if hasN(one.Kind) {
		one.N, ok = readNumber(own)
	}
	if hasText(one.Kind) {
		one.Text = strings.Clone(own) // it may be empty, as any Text is Check's to refuse
	}
	return one, ok
}

// parted are the words behind a kind's name: those of From, and that of its
// own N or Text, which only some kinds have.
func parted(kind int, words []string) (from []string, own string, ok bool) {
	if hasN(kind) || hasText(kind) {
		if len(words) == 0 {
			return nil, "", false
		}
		words, own = words[:len(words)-1], words[len(words)-1]
	}
	switch kind {
	case api.Source:
		ok = len(words) == 0
	case api.Union:
		ok = true
	default:
		ok = len(words) == 1
	}
	return words, own, ok
}

// readNumber reads by writing: what is written otherwise, be it by a needless
// 0, is none.
func readNumber(word string) (int, bool) {
	number, err := strconv.Atoi(word)
	ok := err == nil && 0 <= number && number <= maxNumber && strconv.Itoa(number) == word
	return number, ok
}

// appendNode writes a node that is right.
func appendNode(out []byte, one api.Node) []byte {
	out = append(out, names[one.Kind]...)
	for _, from := range one.From {
		out = appendNumber(out, from)
	}
	if hasN(one.Kind) {
		out = appendNumber(out, one.N)
	}
	if hasText(one.Kind) {
		out = append(append(out, ' '), one.Text...)
	}
	return append(out, '\n')
}

func appendNumber(out []byte, number int) []byte {
	return strconv.AppendInt(append(out, ' '), int64(number), 10)
}
