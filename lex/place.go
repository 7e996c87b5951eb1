package lex

import (
	"strconv"
	"strings"

	"mudlark/api"
)

// place is where in a text a reader stands.
type place struct {
	text string
	at   int
}

// left is what stands from the place on.
func (p *place) left() string {
	return p.text[p.at:]
}

// take takes the next byte, if there is one.
func (p *place) take() (byte, bool) {
	if p.left() == "" {
		return 0, false
	}
	p.at++
	return p.text[p.at-1], true
}

// skip goes on behind a text, if it stands at the place.
func (p *place) skip(text string) bool {
	ok := strings.HasPrefix(p.left(), text)
	if ok {
		p.at += len(text)
	}
	return ok
}

// times takes what stands behind the { of a repeat, if it is one: how many times at least and at most, -1 being any.
func (p *place) times() (low, high int, ok bool) {
	body, _, ok := strings.Cut(p.left(), "}")
	if !ok {
		return 0, 0, false
	}
	first, second, two := strings.Cut(body, ",")
	low, ok = number(first)
	switch {
	case !two:
		high = low
	case second == "":
		high = -1
	default:
		least, right := number(second)
		high, ok = least, ok && right
	}
	if ok {
		p.skip(body + "}")
	}
	return low, high, ok
}

// number is what a row of digits says; one that is too great for a repeat may be any such.
func number(digits string) (n int, ok bool) {
	if digits == "" || digits[0] == '0' && digits != "0" {
		return 0, false
	}
	for _, b := range []byte(digits) {
		if b < '0' || b > '9' {
			return 0, false
		}
		n = min(10*n+int(b-'0'), api.MaxRepeat+1)
	}
	return n, true
}

// hex takes two hex digits.
func (p *place) hex() (byte, bool) {
	const size = 2
	if len(p.left()) < size {
		return 0, false
	}
	n, err := strconv.ParseUint(p.left()[:size], 16, 8)
	if err != nil {
		return 0, false
	}
	p.at += size
	return byte(n), true
}
