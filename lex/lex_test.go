package lex

import (
	"math/rand"
	"slices"
	"strings"
	"testing"

	"mudlark/api"
)

// checkPlain holds the words of a regex against the plain ones.
func checkPlain(t *testing.T, p plainReader, regex string) {
	t.Helper()
	words, at, e := Words(regex)
	wantWords, wantAt, wantE := p.words(regex)
	if !slices.Equal(words, wantWords) || at != wantAt || e != wantE {
		t.Fatalf("%q: %v, %d, %d, not %v, %d, %d", regex, words, at, e, wantWords, wantAt, wantE)
	}
}

// P9.1: the chapter's example.
func TestExample(t *testing.T) {
	words, at, e := Words(`a{2,}?[^b-d\d]`)
	want := []Word{
		{Kind: WordSet, Set: fromTo('a', 'a')},
		{Kind: WordRepeat, At: 1, Min: 2, Max: -1, Lazy: true},
		{Kind: WordSet, At: 6, Set: fromTo('b', 'd', '0', '9'), Not: true},
	}
	if !slices.Equal(words, want) || at != 0 || e != api.OK {
		t.Errorf("%v, %d, %d", words, at, e)
	}
}

// P9.1: kinds are counted from WordSet, 1, on, in the chapter's order.
func TestKinds(t *testing.T) {
	for i, k := range []Kind{WordSet, WordAny, WordHat, WordDollar, WordSpot, WordOpen, WordPlain, WordFlags, WordClose, WordBar, WordRepeat} {
		if int(k) != i+1 {
			t.Errorf("%d: %d", i, k)
		}
	}
}

// P9.1: each row of the table of words, alone.
func TestEachWord(t *testing.T) {
	one := func(b int) Word { return Word{Kind: WordSet, Set: fromTo(b, b)} }
	in := func(s api.Set) Word { return Word{Kind: WordSet, Set: s} }
	digits, letters, spaces := fromTo('0', '9'), fromTo('0', '9', 'A', 'Z', '_', '_', 'a', 'z'), fromTo(9, 10, 12, 13, 32, 32)
	for regex, want := range map[string]Word{
		"a": one('a'), "]": one(']'), "}": one('}'), "{": one('{'), "-": one('-'), ",": one(','), "\xff": one(255), "\x00": one(0), "\n": one(10),
		`\n`: one(10), `\t`: one(9), `\r`: one(13), `\f`: one(12), `\v`: one(11), `\a`: one(7),
		`\x00`: one(0), `\x4a`: one('J'), `\x4A`: one('J'), `\xfF`: one(255), `\.`: one('.'), `\_`: one('_'), `\\`: one('\\'), "\\\n": one(10), "\\\x7f": one(127), "\\\x00": one(0), `\ `: one(32),
		`\d`: in(digits), `\D`: in(not(digits)), `\w`: in(letters), `\W`: in(not(letters)), `\s`: in(spaces), `\S`: in(not(spaces)),
		".": {Kind: WordAny}, "^": {Kind: WordHat}, "$": {Kind: WordDollar}, "(": {Kind: WordOpen}, ")": {Kind: WordClose}, "|": {Kind: WordBar},
		`\b`: {Kind: WordSpot, Spot: api.NodeWord}, `\B`: {Kind: WordSpot, Spot: api.NodeNotWord}, `\A`: {Kind: WordSpot, Spot: api.NodeBegin}, `\z`: {Kind: WordSpot, Spot: api.NodeEnd},
		"(?:": {Kind: WordPlain}, "(?i:": {Kind: WordPlain, On: api.Flags{Fold: true}}, "(?)": {Kind: WordFlags}, "(?-s)": {Kind: WordFlags, Off: api.Flags{All: true}},
		"(?mm-im:": {Kind: WordPlain, On: api.Flags{Lines: true}, Off: api.Flags{Fold: true, Lines: true}},
		"(?sim)":   {Kind: WordFlags, On: api.Flags{Fold: true, Lines: true, All: true}},
		"*":        {Kind: WordRepeat, Max: -1}, "+": {Kind: WordRepeat, Min: 1, Max: -1}, "?": {Kind: WordRepeat, Max: 1},
		"*?": {Kind: WordRepeat, Max: -1, Lazy: true}, "+?": {Kind: WordRepeat, Min: 1, Max: -1, Lazy: true}, "??": {Kind: WordRepeat, Max: 1, Lazy: true},
		"{0}": {Kind: WordRepeat}, "{100}": {Kind: WordRepeat, Min: 100, Max: 100}, "{3,}": {Kind: WordRepeat, Min: 3, Max: -1}, "{0,7}?": {Kind: WordRepeat, Max: 7, Lazy: true},
		"[]]": one(']'), "[^]]": {Kind: WordSet, Set: fromTo(']', ']'), Not: true}, "[^^]": {Kind: WordSet, Set: fromTo('^', '^'), Not: true},
		"[a^-]": in(join(fromTo('a', 'a', '^', '^'), fromTo('-', '-'))), "[[:]": in(fromTo('[', '[', ':', ':')), "[a-]": in(fromTo('a', 'a', '-', '-')), "[]-a]": in(fromTo(']', 'a')),
		`[\d-z]`: in(join(digits, fromTo('-', '-', 'z', 'z'))), `[+--]`: in(fromTo('+', '-')), `[\x41-\x5a]`: in(fromTo('A', 'Z')), "[\x80-\xff]": in(fromTo(128, 255)),
		"[[:alpha:][:^ascii:]]": in(fromTo('A', 'Z', 'a', 'z', 128, 255)), "[A-[:alpha:]": in(join(fromTo('A', '['), fromTo(':', ':', 'a', 'a', 'l', 'l', 'p', 'p', 'h', 'h'))),
	} {
		words, at, e := Words(regex)
		if !slices.Equal(words, []Word{want}) || at != 0 || e != api.OK {
			t.Errorf("%q: %v, %d, %d, not %v", regex, words, at, e, want)
		}
	}
}

// P9.1: what each NAME has, and has not.
func TestNames(t *testing.T) {
	for _, name := range strings.Fields("alnum alpha ascii blank cntrl digit graph lower print punct space upper word xdigit") {
		want, _ := plainName(name)
		for _, w := range []struct {
			regex string
			set   api.Set
			not   bool
		}{{"[[:" + name + ":]]", want, false}, {"[[:^" + name + ":]]", not(want), false}, {"[^[:" + name + ":]]", want, true}} {
			if words, _, e := Words(w.regex); e != 0 || len(words) != 1 || words[0] != (Word{Kind: WordSet, Set: w.set, Not: w.not}) {
				t.Errorf("%s: %v, %d", w.regex, words, e)
			}
		}
	}
}

// P9.1: braces that are no repeat are bytes.
func TestBracesThatAreBytes(t *testing.T) {
	for _, regex := range []string{"{", "{}", "{,}", "{,3}", "{02}", "{00}", "{2,03}", "{2", "{2,", "{2,3", "{ 2}", "{2 }", "{a}", "{2,3,4}", "{-1}", "{+2}", "{2,+3}", "{1_0}"} {
		words, at, e := Words(regex)
		if e != 0 || at != 0 || len(words) != len(regex) {
			t.Fatalf("%s: %v, %d, %d", regex, words, at, e)
		}
		for i, w := range words {
			b := int(regex[i])
			want := Word{Kind: WordSet, At: i, Set: fromTo(b, b)}
			if regex[i] == '+' {
				want = Word{Kind: WordRepeat, At: i, Min: 1, Max: -1}
			}
			if w != want {
				t.Errorf("%s: %v", regex, w)
			}
		}
	}
}

// P9.1: each wrong word, at its place, with its error; none of the words that stand ahead of it is told.
func TestWrongWords(t *testing.T) {
	for _, wrong := range strings.Fields(`\ \Z \c \1 \0 \x \x4 \xg0 \x4g \x+1 \x_1 (? (?x) (?i (?i- (?-) (?-: (?i-) (?i-m-s) (?P<a>) (?=a) (?<a) (?i(` +
		` [ [a [] [^ [^] [a- [a-b [[:alpha:] [[:x:]] [[::]] [[:^:]] [[:]:]] [[:Alpha:]] [[:^^alpha:]] [[:alpha]x:]] [\b] [\z] [\c] [\x4] [a\] [\ [z-a] [a-\d] [a-\c] [a-\x4] [a--] [\x42-A] [a-[:alpha:]] [^b-a] []-A]`) {
		checkWrong(t, wrong, api.ErrSyntax)
	}
	for _, wrong := range strings.Fields("{101} {101,} {0,101} {101,102} {3,2} {1,0} {100,99}? {99999999999999999999} {18446744073709551617} {0,18446744073709551617}") {
		checkWrong(t, wrong, api.ErrRepeat)
	}
	checkWrong(t, "\\\x80", api.ErrSyntax)
	checkWrong(t, "\\\xff", api.ErrSyntax)
}

// checkWrong holds a wrong word alone, behind others, and behind one that is wrong in another way.
func checkWrong(t *testing.T, wrong string, want api.Errno) {
	t.Helper()
	for _, ahead := range []string{"", "ab", "a{2}(", "[a]*"} {
		if words, at, e := Words(ahead + wrong); words != nil || at != len(ahead) || e != want {
			t.Errorf("%q: %v, %d, %d", ahead+wrong, words, at, e)
		}
	}
	if words, at, e := Words("a{7,2}" + wrong); words != nil || at != 1 || e != api.ErrRepeat {
		t.Errorf("%q: %v, %d, %d", wrong, words, at, e)
	}
	if words, at, e := Words(`bc\q` + wrong); words != nil || at != 2 || e != api.ErrSyntax {
		t.Errorf("%q: %v, %d, %d", wrong, words, at, e)
	}
}

// P9.1: 1000 bytes, and one more, which is told ahead of all else.
func TestLong(t *testing.T) {
	for _, piece := range []string{"a", "(", "*", "[", `\d`, "[:alpha:]"} {
		regex := strings.Repeat(piece, 1000)
		checkPlain(t, newPlain(), regex[:1000])
		if words, at, e := Words(regex[:1000] + "a"); words != nil || at != 0 || e != api.ErrLong {
			t.Errorf("%s: %v, %d, %d", piece, words, at, e)
		}
	}
	if words, at, e := Words(strings.Repeat(`\c`, 501)); words != nil || at != 0 || e != api.ErrLong {
		t.Errorf("%v, %d, %d", words, at, e)
	}
	if words, at, e := Words(""); words != nil || at != 0 || e != api.OK {
		t.Errorf("%v, %d, %d", words, at, e)
	}
	numbers := "a{" + strings.Repeat("9", 990) + "}"
	if words, at, e := Words(numbers); words != nil || at != 1 || e != api.ErrRepeat {
		t.Errorf("%v, %d, %d", words, at, e)
	}
}

// P9.1: all regexes of few bytes are read as the plain ones.
func TestShortAgainstPlain(t *testing.T) {
	const kinds = `[]^-\d:x4{1,}?(i)`
	p := newPlain()
	regexes := []string{""}
	for range 4 {
		var longer []string
		for _, regex := range regexes {
			for i := range len(kinds) {
				longer = append(longer, regex+kinds[i:i+1])
			}
		}
		for _, regex := range longer {
			checkPlain(t, p, regex)
		}
		regexes = longer
	}
	for a := range 256 {
		for b := range 256 {
			checkPlain(t, p, string([]byte{'\\', byte(a), byte(b)}))
			checkPlain(t, p, string([]byte{byte(a), byte(b)}))
			checkPlain(t, p, string([]byte{'[', byte(a), '-', byte(b), ']'}))
		}
	}
}

// P9.1, R4: regexes of chance are read as the plain ones, and alike each time.
func TestChanceAgainstPlain(t *testing.T) {
	r := rand.New(rand.NewSource(91))
	p := newPlain()
	for range 60000 {
		regex := someRegex(r, 6)
		checkPlain(t, p, regex)
		checkPlain(t, p, regex)
	}
}

// P9.2: two regexes behind each other have the words of the first one, and of the second one so much further on.
func TestBehindEachOther(t *testing.T) {
	r := rand.New(rand.NewSource(92))
	told := 0
	for range 60000 {
		a, b := someRegex(r, 4), someRegex(r, 4)
		first, _, e := Words(a)
		if e != 0 || strings.Contains(a, "[:") || b != "" && strings.ContainsRune("?0123456789,{}", rune(b[0])) {
			continue
		}
		second, at, e := Words(b)
		both, bothAt, bothE := Words(a + b)
		if e != 0 {
			if both != nil || bothE != e || bothAt != at+len(a) {
				t.Fatalf("%q, %q: %v, %d, %d", a, b, both, bothAt, bothE)
			}
			continue
		}
		for i := range second {
			second[i].At += len(a)
		}
		if bothE != 0 || bothAt != 0 || !slices.Equal(both, append(first, second...)) {
			t.Fatalf("%q, %q: %v, %d, %d", a, b, both, bothAt, bothE)
		}
		told++
	}
	if told < 10000 {
		t.Errorf("%d alone", told)
	}
}

// R3: words that are handed out are the caller's own.
func TestWordsAreNew(t *testing.T) {
	first, _, _ := Words(`a[b]`)
	first[0], first[1] = Word{}, Word{}
	checkPlain(t, newPlain(), `a[b]`)
}

// P9.1: words and things that are gone through are left where a loop ends.
func TestRangesAreLeft(t *testing.T) {
	r := &reader{place: place{text: "abc"}, names: names()}
	for range r.words() {
		break
	}
	if r.left() != "bc" {
		t.Errorf("%q", r.left())
	}
	for range r.things() {
		break
	}
	if r.left() != "c" {
		t.Errorf("%q", r.left())
	}
}
