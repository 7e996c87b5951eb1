package lex

import (
	"math/rand"
	"regexp"
	"strconv"
	"strings"

	"mudlark/api"
)

// The document's words of the words of a regex, read by Go's own regexes: each byte is one rune, from 0 to 255.

const (
	onePattern  = `(?:\\x[0-9A-Fa-f]{2}|\\[ntrfva]|\\[^0-9A-Za-z\x{80}-\x{ff}])`
	timesNumber = `(0|[1-9][0-9]*)`
)

// plainReader is the patterns of what may stand in a regex.
type plainReader struct {
	kind, spot, one, flags, repeat, name, single, ranged, fullRange *regexp.Regexp
}

func newPlain() plainReader {
	make := func(pattern string) *regexp.Regexp { return regexp.MustCompile(`^(?s:` + pattern + `)`) }
	return plainReader{
		kind:      make(`\\([dwsDWS])`),
		spot:      make(`\\([bBAz])`),
		one:       make(onePattern),
		flags:     make(`\(\?([ims]*)(?:-([ims]+))?([:)])`),
		repeat:    make(`(?:\*|\+|\?|\{` + timesNumber + `(,` + timesNumber + `?)?\})(\??)`),
		name:      make(`\[:(\^?)(.*?):\]`),
		single:    make(`(` + onePattern + `|[^\\])`),
		ranged:    make(`(` + onePattern + `|[^\\])-[^\]]`),
		fullRange: make(`(` + onePattern + `|[^\\])-(` + onePattern + `|[^\\])`),
	}
}

// asRunes is a text's bytes as runes.
func asRunes(text string) string {
	var l []rune
	for _, b := range []byte(text) {
		l = append(l, rune(b))
	}
	return string(l)
}

// size is how many runes a text has.
func size(text string) int { return len([]rune(text)) }

// after is what stands behind a match.
func after(text, match string) string { return text[len(match):] }

func setOf(is func(b int) bool) api.Set {
	var s api.Set
	for b := range 256 {
		if is(b) {
			s[b/64] |= 1 << (b % 64)
		}
	}
	return s
}

func not(s api.Set) api.Set {
	return setOf(func(b int) bool { return s[b/64]>>(b%64)%2 == 0 })
}

func join(a, b api.Set) api.Set {
	for i := range a {
		a[i] |= b[i]
	}
	return a
}

func fromTo(l ...int) api.Set {
	return setOf(func(b int) bool {
		for i := 0; i < len(l); i += 2 {
			if b >= l[i] && b <= l[i+1] {
				return true
			}
		}
		return false
	})
}

// plainName is what a NAME has.
func plainName(name string) (api.Set, bool) {
	alnum := fromTo(48, 57, 65, 90, 97, 122)
	switch name {
	case "alnum":
		return alnum, true
	case "alpha":
		return fromTo(65, 90, 97, 122), true
	case "ascii":
		return fromTo(0, 127), true
	case "blank":
		return fromTo(9, 9, 32, 32), true
	case "cntrl":
		return fromTo(0, 31, 127, 127), true
	case "digit":
		return fromTo(48, 57), true
	case "graph":
		return fromTo(33, 126), true
	case "lower":
		return fromTo(97, 122), true
	case "print":
		return fromTo(32, 126), true
	case "punct":
		return setOf(func(b int) bool { return b >= 33 && b <= 126 && alnum[b/64]>>(b%64)%2 == 0 }), true
	case "space":
		return fromTo(9, 13, 32, 32), true
	case "upper":
		return fromTo(65, 90), true
	case "word":
		return join(alnum, fromTo(95, 95)), true
	case "xdigit":
		return fromTo(48, 57, 65, 70, 97, 102), true
	}
	return api.Set{}, false
}

// plainKind is what \d and its like have.
func plainKind(letter string) api.Set {
	s := map[string]api.Set{"D": fromTo(48, 57), "W": fromTo(48, 57, 65, 90, 95, 95, 97, 122), "S": fromTo(9, 10, 12, 13, 32, 32)}[strings.ToUpper(letter)]
	if letter == strings.ToUpper(letter) {
		return not(s)
	}
	return s
}

// plainByte is the byte that a byte or an escape is.
func plainByte(text string) int {
	r := []rune(text)
	if len(r) == 1 {
		return int(r[0])
	}
	if len(r) == 4 {
		n, _ := strconv.ParseInt(string(r[2:]), 16, 32)
		return int(n)
	}
	if at := strings.IndexRune("ntrfva", r[1]); at >= 0 {
		return []int{10, 9, 13, 12, 11, 7}[at]
	}
	return int(r[1])
}

func plainFlags(letters string) api.Flags {
	return api.Flags{Fold: strings.Contains(letters, "i"), Lines: strings.Contains(letters, "m"), All: strings.Contains(letters, "s")}
}

// plainTimes is what a repeat says, and whether it may be.
func plainTimes(m []string) (low, high int, ok bool) {
	switch m[0][0] {
	case '*':
		return 0, -1, true
	case '+':
		return 1, -1, true
	case '?':
		return 0, 1, true
	}
	number := func(text string) int {
		if len(text) > 3 {
			return 1000
		}
		n, _ := strconv.Atoi(text)
		return n
	}
	low = number(m[1])
	switch {
	case m[2] == "":
		high = low
	case m[3] == "":
		return low, -1, low <= 100
	default:
		high = number(m[3])
	}
	return low, high, low <= 100 && high <= 100 && low <= high
}

// class reads a class behind its [, and tells what stands behind it.
func (p plainReader) class(text string) (w Word, left string, ok bool) {
	w.Kind = WordSet
	text, w.Not = strings.CutPrefix(text, "^")
	for first := true; ; first = false {
		if text == "" {
			return w, "", false
		}
		if text[0] == ']' && !first {
			return w, text[1:], true
		}
		var s api.Set
		if m := p.name.FindStringSubmatch(text); m != nil {
			named, known := plainName(m[2])
			if !known {
				return w, "", false
			}
			s, text = named, after(text, m[0])
			if m[1] != "" {
				s = not(s)
			}
		} else if m := p.kind.FindStringSubmatch(text); m != nil {
			s, text = plainKind(m[1]), after(text, m[0])
		} else if p.ranged.MatchString(text) {
			m := p.fullRange.FindStringSubmatch(text)
			if m == nil || plainByte(m[1]) > plainByte(m[2]) {
				return w, "", false
			}
			s, text = fromTo(plainByte(m[1]), plainByte(m[2])), after(text, m[0])
		} else if m := p.single.FindString(text); m != "" {
			s, text = fromTo(plainByte(m), plainByte(m)), after(text, m)
		} else {
			return w, "", false
		}
		w.Set = join(w.Set, s)
	}
}

// word reads the first word of a text, and tells what stands behind it.
func (p plainReader) word(text string) (w Word, left string, e api.Errno) {
	if m := p.kind.FindStringSubmatch(text); m != nil {
		return Word{Kind: WordSet, Set: plainKind(m[1])}, after(text, m[0]), 0
	}
	if m := p.spot.FindStringSubmatch(text); m != nil {
		spots := map[string]api.NodeKind{"b": api.NodeWord, "B": api.NodeNotWord, "A": api.NodeBegin, "z": api.NodeEnd}
		return Word{Kind: WordSpot, Spot: spots[m[1]]}, after(text, m[0]), 0
	}
	if m := p.flags.FindStringSubmatch(text); m != nil {
		kinds := map[string]Kind{":": WordPlain, ")": WordFlags}
		return Word{Kind: kinds[m[3]], On: plainFlags(m[1]), Off: plainFlags(m[2])}, after(text, m[0]), 0
	}
	if m := p.repeat.FindStringSubmatch(text); m != nil {
		low, high, ok := plainTimes(m)
		if !ok {
			return w, "", api.ErrRepeat
		}
		return Word{Kind: WordRepeat, Min: low, Max: high, Lazy: m[4] != ""}, after(text, m[0]), 0
	}
	if m := p.one.FindString(text); m != "" {
		return Word{Kind: WordSet, Set: fromTo(plainByte(m), plainByte(m))}, after(text, m), 0
	}
	if text[0] == '[' {
		w, left, ok := p.class(text[1:])
		if !ok {
			return Word{}, "", api.ErrSyntax
		}
		return w, left, 0
	}
	if text[0] == '\\' || strings.HasPrefix(text, "(?") {
		return w, "", api.ErrSyntax
	}
	first := string([]rune(text)[:1])
	kinds := map[string]Kind{".": WordAny, "^": WordHat, "$": WordDollar, "(": WordOpen, ")": WordClose, "|": WordBar}
	if k := kinds[first]; k != 0 {
		return Word{Kind: k}, after(text, first), 0
	}
	return Word{Kind: WordSet, Set: fromTo(plainByte(first), plainByte(first))}, after(text, first), 0
}

// words is P9.1 as its words say it.
func (p plainReader) words(regex string) (words []Word, at int, e api.Errno) {
	if len(regex) > 1000 {
		return nil, 0, api.ErrLong
	}
	text := asRunes(regex)
	for text != "" {
		w, left, e := p.word(text)
		at := len(regex) - size(text)
		if e != 0 {
			return nil, at, e
		}
		w.At = at
		words, text = append(words, w), left
	}
	return words, 0, 0
}

// someRegex is some pieces of regexes, right ones and wrong ones, behind each other.
func someRegex(r *rand.Rand, most int) string {
	pieces := strings.Split("a b z A 0 9 _ . ^ $ ( ) | * + ? { } [ ] - , : \\ \x00 \x7f \x80 \xff \n ;"+
		` \n \t \r \f \v \a \d \w \s \D \W \S \b \B \A \z \Z \c \1 \x41 \xfF \x4 \xg0 \x \\ \. \- \] \[ \_`+
		` [a-z] [^a-z] [^] [] []] []a] [^]a] [^^] [a-] [-a] [a-b-c] [z-a] [--a] [a--] [\d-z] [a-\d] [\x41-\x5a] [\x5a-\x41] [a-\n] [\b] [\--\]]`+
		` [[:alpha:]] [^[:^digit:]] [:alpha:] [[:punct:]-z] [[:x:]] [[:] [[:]:] [: :] [[: [:^ [:word:] [:^space:]`+
		` {2} {0} {02} {2,} {2,3} {3,2} {,3} {100} {101} {0,100} {0,101} {5,05} {1234567890123456789012} {2}? {2 {2, {2,3`+
		` *? +? ?? (?i) (?ims) (?i-s) (?-m: (?-: (?) (?: (?i-) (?ii-ss: (?x) (?i (? (?- (?s-i-m) (?P<a>`, " ")
	var out strings.Builder
	for range r.Intn(most + 1) {
		out.WriteString(pieces[r.Intn(len(pieces))])
	}
	return out.String()
}
