package expr

import (
	"strconv"
	"strings"

	"weirgate/api"
)

// fault is what the reading of a text panics with, at what cannot stand there.
type fault struct {
	at  int
	err api.Errno
}

// reader has a text, how far it is read, and within how many levels that is.
type reader struct {
	text string
	at   int
	deep int
}

// read tells what a text says, or where it is wrong, and how.
func read(text string) (whole *term, at int, err error) {
	if len(text) > api.MaxText {
		return nil, 0, api.ErrFull
	}
	defer func() {
		if stopped := recover(); stopped != nil {
			wrong := stopped.(fault) // no other one is thrown: it would go on
			whole, at, err = nil, wrong.at, wrong.err
		}
	}()
	r := &reader{text: text}
	whole = r.choice()
	if r.at < len(text) {
		r.refuse()
	}
	return whole, 0, nil
}

// refuse ends the reading: what comes next, or the end, cannot stand there.
func (r *reader) refuse() {
	panic(fault{r.at, api.ErrSyntax})
}

// deeper reads what is within the sign at a place, a level deeper.
func (r *reader) deeper(place int, within func()) {
	if r.deep == api.MaxDeep {
		panic(fault{place, api.ErrFull})
	}
	r.deep++
	within()
	r.deep--
}

// take goes on behind a word, if it is what comes next.
func (r *reader) take(word string) bool {
	if !strings.HasPrefix(r.text[r.at:], word) {
		return false
	}
	r.at += len(word)
	return true
}

func (r *reader) must(word string) {
	if !r.take(word) {
		r.refuse()
	}
}

// takeOf goes on behind the one of these bytes that comes next, if one does.
func (r *reader) takeOf(these string) (byte, bool) {
	if r.at == len(r.text) || strings.IndexByte(these, r.text[r.at]) < 0 {
		return 0, false
	}
	r.at++
	return r.text[r.at-1], true
}

func (r *reader) choice() *term {
	first := r.compare()
	place := r.at
	if !r.take("?") {
		return first
	}
	var second, third *term
	r.deeper(place, func() { second = r.choice() })
	place = r.at
	r.must(":")
	r.deeper(place, func() { third = r.choice() })
	return &term{op: '?', parts: []*term{first, second, third}}
}

func (r *reader) compare() *term {
	left := r.sum()
	op, ok := r.takeOf("=<>")
	if !ok {
		return left
	}
	return &term{op: op, parts: []*term{left, r.sum()}}
}

func (r *reader) sum() *term {
	return r.fromLeft("+-", r.product)
}

func (r *reader) product() *term {
	return r.fromLeft("*/%", r.sign)
}

func (r *reader) fromLeft(ops string, part func() *term) *term {
	left := part()
	for {
		op, ok := r.takeOf(ops)
		if !ok {
			return left
		}
		left = &term{op: op, parts: []*term{left, part()}}
	}
}

func (r *reader) sign() *term {
	place := r.at
	if !r.take("-") {
		return r.single()
	}
	var one *term
	r.deeper(place, func() { one = r.sign() })
	return &term{op: negative, parts: []*term{one}}
}

func (r *reader) single() *term {
	place := r.at
	if op, ok := r.takeOf("ns"); ok {
		return &term{op: op}
	}
	switch {
	case r.take("("):
		return r.bracket(place)
	case r.take("min("):
		return r.pair(place, least)
	case r.take("max("):
		return r.pair(place, greatest)
	}
	return r.number()
}

func (r *reader) bracket(place int) *term {
	var inner *term
	r.deeper(place, func() { inner = r.choice() })
	r.must(")")
	return inner
}

func (r *reader) pair(place int, op byte) *term {
	var first, second *term
	r.deeper(place, func() {
		first = r.choice()
		r.must(",")
		second = r.choice()
	})
	r.must(")")
	return &term{op: op, parts: []*term{first, second}}
}

// number is what is left to come next: no digits at all are none either.
func (r *reader) number() *term {
	digits := r.digits()
	num, err := strconv.Atoi(digits)
	if err != nil {
		r.refuse()
	}
	r.at += len(digits)
	return &term{op: number, num: num}
}

// digits are those of the number that comes next. A 0 is one by itself: what
// comes behind it cannot stand there.
func (r *reader) digits() string {
	rest := r.text[r.at:]
	if strings.HasPrefix(rest, "0") {
		return "0"
	}
	end := 0
	for end < len(rest) && '0' <= rest[end] && rest[end] <= '9' {
		end++
	}
	return rest[:end]
}
