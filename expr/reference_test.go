package expr_test

import (
	"math/big"
	"strings"
	"testing"

	"weirgate/api"
	"weirgate/expr"
	"weirgate/plain"
)

// walker says where a text is wrong in another way than the program does: it
// goes along the text once, with a list of the signs that it is within.
type walker struct {
	text     string
	at       int
	within   []byte // ( m M - ? : where M is m behind its comma
	compared []bool // whether = < > was met there; one more, for the whole
}

func (w *walker) open(sign byte, long int) api.Errno {
	if len(w.within) == api.MaxDeep {
		return api.ErrFull
	}
	w.within = append(w.within, sign)
	w.compared = append(w.compared, false)
	w.at += long
	return api.OK
}

func (w *walker) inner() byte {
	if len(w.within) == 0 {
		return 0
	}
	return w.within[len(w.within)-1]
}

func (w *walker) leave(sign byte) {
	for w.inner() == sign {
		w.shut()
	}
}

func (w *walker) shut() {
	w.within = w.within[:len(w.within)-1]
	w.compared = w.compared[:len(w.compared)-1]
}

// operand goes on by what may stand where one is to come, and tells whether it
// has come whole.
func (w *walker) operand() (bool, api.Errno) {
	rest := w.text[w.at:]
	switch {
	case strings.HasPrefix(rest, "("):
		return false, w.open('(', 1)
	case strings.HasPrefix(rest, "-"):
		return false, w.open('-', 1)
	case strings.HasPrefix(rest, "min("), strings.HasPrefix(rest, "max("):
		return false, w.open('m', 4)
	case strings.HasPrefix(rest, "n"), strings.HasPrefix(rest, "s"), strings.HasPrefix(rest, "0"):
		w.at++
	default:
		long := len(rest) - len(strings.TrimLeft(rest, "0123456789"))
		num, ok := new(big.Int).SetString(rest[:long], 10)
		if !ok || !num.IsInt64() {
			return false, api.ErrSyntax
		}
		w.at += long
	}
	w.leave('-')
	return true, api.OK
}

// behind goes on by what may stand behind an operand, and tells whether that
// leaves one whole.
func (w *walker) behind() (bool, api.Errno) {
	c := w.text[w.at]
	if strings.IndexByte(":,)", c) >= 0 {
		w.leave(':')
	}
	last := len(w.compared) - 1
	switch {
	case strings.IndexByte("+-*/%", c) >= 0:
	case strings.IndexByte("=<>", c) >= 0 && !w.compared[last]:
		w.compared[last] = true
	case c == '?':
		return false, w.open('?', 1)
	case c == ':' && w.inner() == '?':
		w.shut()
		return false, w.open(':', 1)
	case c == ',' && w.inner() == 'm':
		w.shut()
		return false, w.open('M', 1)
	case c == ')' && (w.inner() == '(' || w.inner() == 'M'):
		w.shut()
		w.leave('-')
		w.at++
		return true, api.OK
	default:
		return true, api.ErrSyntax
	}
	w.at++
	return false, api.OK
}

func walk(text string) (int, api.Errno) {
	if len(text) > api.MaxText {
		return 0, api.ErrFull
	}
	w := &walker{text: text, compared: []bool{false}}
	whole, wrong := false, api.OK
	for w.at < len(text) && wrong == api.OK {
		if whole {
			whole, wrong = w.behind()
		} else {
			whole, wrong = w.operand()
		}
	}
	if wrong != api.OK {
		return w.at, wrong
	}
	w.leave(':')
	if !whole || len(w.within) > 0 {
		return len(text), api.ErrSyntax
	}
	return 0, api.OK
}

func sameAsWalk(t *testing.T, text string) {
	t.Helper()
	at, err := expr.Check(text)
	if place, want := walk(text); at != place || plain.Told(err) != want {
		t.Errorf("Check(%q) is %d, %v, want %d, %v", text, at, err, place, want)
	}
}

func TestCheckAllShortTexts(t *testing.T) {
	pieces := []string{"n", "0", "1", "-", "*", "=", "?", ":", "(", ")", ",", "min(", "m", " "}
	texts := []string{""}
	for range 5 {
		var longer []string
		for _, text := range texts {
			for _, piece := range pieces {
				longer = append(longer, text+piece)
			}
		}
		for _, text := range longer {
			sameAsWalk(t, text)
		}
		texts = longer
	}
}

// dice are numbers that look thrown, and are the same each time.
type dice uint64

func (d *dice) below(n int) int {
	*d = *d*6364136223846793005 + 1442695040888963407
	return int(uint64(*d)>>33) % n
}

// thrown is a text that is right, mostly, if it is not too long or too deep.
func (d *dice) thrown(many int) string {
	if many == 0 {
		return []string{"n", "s", "0", "7", "120", "9223372036854775807"}[d.below(6)]
	}
	left := d.below(many)
	a, b := d.thrown(left), d.thrown(many-1-left)
	switch d.below(8) {
	case 0:
		return "(" + a + ")"
	case 1:
		return "-" + a
	case 2:
		return "min(" + a + "," + b + ")"
	case 3:
		return "max(" + a + "," + b + ")"
	case 4:
		return "n?" + a + ":" + b
	case 5:
		return "(" + a + ")" + string("=<>"[d.below(3)]) + "(" + b + ")"
	}
	return a + string("+-*/%=?("[d.below(8)]) + b
}

func TestCheckThrownTexts(t *testing.T) {
	d := new(dice)
	for range 60000 {
		text := d.thrown(d.below(40))
		sameAsWalk(t, text)
		at := d.below(len(text) + 1)
		sameAsWalk(t, text[:at])
		sameAsWalk(t, text[:at]+string("ns0189-+*/%=<>?:(),mixa "[d.below(24)])+text[at:])
		sameAsWalk(t, text[:at]+text[min(at+1, len(text)):])
	}
}
