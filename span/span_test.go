package span

import (
	"bytes"
	"math/rand"
	"regexp"
	"slices"
	"strings"
	"testing"

	"mudlark/api"
	"mudlark/chance"
	"mudlark/syntax"
	"mudlark/tree"
)

// check holds a tree's spans against the plain ones.
func check(t *testing.T, n api.Node, s []byte) {
	t.Helper()
	got, want := Spans(n, s), plainSpans(n, s)
	if !slices.Equal(got, want) || Find(n, s) != (len(want) > 0) {
		t.Fatalf("%v on %q: %v, %v, not %v", n, s, got, Find(n, s), want)
	}
}

// read is the tree of a regex.
func read(t *testing.T, regex string) api.Node {
	t.Helper()
	n, _, at, e := syntax.Parse(regex, api.Flags{})
	if e != api.OK {
		t.Fatalf("%s: %d, %d", regex, at, e)
	}
	return n
}

// P12.1: the chapter's example, and one of each row of its table.
func TestSpans(t *testing.T) {
	for _, l := range []struct {
		regex, s string
		spans    [][2]int
	}{
		{"a*", "aa", [][2]int{{0, 0}, {0, 1}, {0, 2}, {1, 1}, {1, 2}, {2, 2}}},
		{"", "ab", [][2]int{{0, 0}, {1, 1}, {2, 2}}}, {"", "", [][2]int{{0, 0}}},
		{`[^\d\D]`, "ab", nil}, {"[ab]", "acb", [][2]int{{0, 1}, {2, 3}}}, {"ab", "abab", [][2]int{{0, 2}, {2, 4}}},
		{"a|ab|", "ab", [][2]int{{0, 0}, {0, 1}, {0, 2}, {1, 1}, {2, 2}}}, {"(a)", "ba", [][2]int{{1, 2}}},
		{"a{2,3}", "aaaa", [][2]int{{0, 2}, {0, 3}, {1, 3}, {1, 4}, {2, 4}}}, {"a{0}", "a", [][2]int{{0, 0}, {1, 1}}}, {"a{2}?", "aaa", [][2]int{{0, 2}, {1, 3}}}, {"(?:ab){2,}", "ababab", [][2]int{{0, 4}, {0, 6}, {2, 6}}},
		{"^", "a\nb", [][2]int{{0, 0}}}, {"$", "a\nb\n", [][2]int{{4, 4}}}, {"(?m)^", "a\nb\n", [][2]int{{0, 0}, {2, 2}, {4, 4}}}, {"(?m)$", "a\n\nb", [][2]int{{1, 1}, {2, 2}, {4, 4}}},
		{`\b`, "a_ 9", [][2]int{{0, 0}, {2, 2}, {3, 3}, {4, 4}}}, {`\B`, "a_ -", [][2]int{{1, 1}, {3, 3}, {4, 4}}}, {`\B`, "", [][2]int{{0, 0}}}, {`\b`, "", nil},
		{`(?:\b|^)*`, "a", [][2]int{{0, 0}, {1, 1}}}, {"(?:^a|b$)+", "ab", [][2]int{{0, 1}, {0, 2}, {1, 2}}}, {"(?:^){3}", "a", [][2]int{{0, 0}}},
	} {
		n := read(t, l.regex)
		if got := Spans(n, []byte(l.s)); !slices.Equal(got, l.spans) {
			t.Errorf("%s on %q: %v", l.regex, l.s, got)
		}
		check(t, n, []byte(l.s))
	}
}

// P12.1, P12.2: none of a tree that is not right, or of more than 200 bytes.
func TestNone(t *testing.T) {
	for _, n := range []api.Node{{}, {Kind: api.NodeSet}, {Kind: api.NodeEmpty, Min: 1}, {Kind: 14}, {Kind: -1}, {Kind: api.NodeCat}, {Kind: api.NodeRepeat, Max: 101, Kids: []api.Node{{Kind: api.NodeEmpty}}}, {Kind: api.NodeGroup, Kids: []api.Node{{Kind: api.NodeEmpty}}}} {
		if Spans(n, []byte("a")) != nil || Find(n, []byte("a")) {
			t.Errorf("%v", n)
		}
	}
	s := bytes.Repeat([]byte("a"), 201)
	n := read(t, "a{99}a{100}a*")
	if got := Spans(n, s[:200]); !slices.Equal(got, [][2]int{{0, 199}, {0, 200}, {1, 200}}) || !Find(n, s[:200]) {
		t.Errorf("%v", got)
	}
	if Spans(n, s) != nil || Find(n, s) || Find(read(t, ""), s) {
		t.Error("201 bytes")
	}
}

// P12.2: each spot of each place, and of such as are none.
func TestSpots(t *testing.T) {
	r := rand.New(rand.NewSource(121))
	texts := [][]byte{nil, []byte("\n"), []byte("a"), []byte("09AZaz_"), []byte("/:@[`{^"), []byte("\n\na\n"), bytes.Repeat([]byte("ab \n"), 100)}
	for a := range 256 {
		texts = append(texts, []byte{byte(a)}, []byte{byte(a), 'a', byte(a), ' ', byte(a)})
	}
	for range 200 {
		texts = append(texts, chance.Draw(r.Intn).Text(12))
	}
	for _, s := range texts {
		for i := -2; i <= len(s)+2; i++ {
			for k := api.NodeKind(-1); k < 16; k++ {
				if got := Spot(k, s, i); got != plainSpot(k, s, i) {
					t.Errorf("%d on %q at %d: %v", k, s, i, got)
				}
			}
		}
	}
	if Spot(api.NodeBegin, []byte("a"), -1<<63) || Spot(api.NodeEnd, []byte("a"), 1<<63-1) {
		t.Error("far away")
	}
}

// P12.1, P12.2, R4: trees of chance on bytes of chance, as the plain ones, and alike each time.
func TestChanceAgainstPlain(t *testing.T) {
	r := rand.New(rand.NewSource(122))
	found := 0
	for range 12000 {
		n, s := chance.Draw(r.Intn).Tree(5), chance.Draw(r.Intn).Text(9)
		check(t, n, s)
		check(t, n, s)
		if Find(n, s) {
			found++
		}
	}
	for range 40 {
		check(t, chance.Draw(r.Intn).Tree(3), chance.Draw(r.Intn).Text(200))
	}
	if found < 4000 || found > 11000 {
		t.Errorf("%d", found)
	}
}

// P12.1: repeats of each number of times.
func TestRepeats(t *testing.T) {
	s := bytes.Repeat([]byte("ab"), 9)
	for _, regex := range []string{"a", "ab", "[ab]", "a|b|ab", "(?:ab)?", "^", "", "aba|b"} {
		for low := range 20 {
			for high := -1; high < 20; high++ {
				if high < 0 || high >= low {
					check(t, api.Node{Kind: api.NodeRepeat, Min: low, Max: high, Kids: []api.Node{read(t, regex)}}, s)
				}
			}
		}
	}
}

// P12.1: Go's own regexes find a span just where there is one.
func TestAgainstGo(t *testing.T) {
	for _, regex := range []string{"a(?:b|c)*d", "(?:ab?){2,3}c", "[^a]b+?", "(a|ab)(c|bcd)", "a?a?a?aaa", "(?:a*)*b", "(?i)Abc|B", "(?s)a.b", "a.b", `\ba`, `a\B`, "(?m)^b$", "^ab$"} {
		n, whole := read(t, regex), regexp.MustCompile(regex)
		r := rand.New(rand.NewSource(123))
		for range 400 {
			s := make([]byte, r.Intn(9))
			for i := range s {
				s[i] = "abcdAB\n"[r.Intn(7)]
			}
			if Find(n, s) != whole.Match(s) {
				t.Errorf("%s on %q", regex, s)
			}
		}
	}
}

// P12.3: a tree and its simple tree match the same.
func TestSimpleTreesMatchTheSame(t *testing.T) {
	r := rand.New(rand.NewSource(124))
	told := 0
	for range 6000 {
		n, s := chance.Draw(r.Intn).Tree(5), chance.Draw(r.Intn).Text(9)
		if simple, e := tree.Simple(n); e == api.OK {
			told++
			if a, b := Spans(n, s), Spans(simple, s); !slices.Equal(a, b) {
				t.Fatalf("%v, %v on %q: %v, %v", n, simple, s, a, b)
			}
		}
	}
	if told < 5000 {
		t.Errorf("%d", told)
	}
}

// P12.3: two behind each other; one time more at the begin; bytes around, without spots.
func TestWhatFollows(t *testing.T) {
	r := rand.New(rand.NewSource(125))
	for range 4000 {
		a, b, s := chance.Draw(r.Intn).Tree(3), chance.Draw(r.Intn).Tree(3), chance.Draw(r.Intn).Text(8)
		var joined [][2]int
		for i := range len(s) + 1 {
			for j := i; j <= len(s); j++ {
				through := func(x [2]int) bool { return x[0] == i && slices.Contains(Spans(b, s), [2]int{x[1], j}) }
				if slices.ContainsFunc(Spans(a, s), through) {
					joined = append(joined, [2]int{i, j})
				}
			}
		}
		both := api.Node{Kind: api.NodeCat, Kids: []api.Node{a, b}}
		if got := Spans(both, s); !slices.Equal(got, joined) {
			t.Fatalf("%v on %q: %v, not %v", both, s, got, joined)
		}
		star := api.Node{Kind: api.NodeRepeat, Min: r.Intn(3), Max: -1, Kids: []api.Node{a}}
		for _, x := range Spans(api.Node{Kind: api.NodeCat, Kids: []api.Node{a, star}}, s) {
			if !slices.Contains(Spans(star, s), x) {
				t.Fatalf("%v on %q: %v", star, s, x)
			}
		}
		around(t, a, s)
	}
}

// around holds a tree's spans within more bytes against those in them alone, if it has no spots.
func around(t *testing.T, n api.Node, s []byte) {
	spots := false
	var look func(n api.Node)
	look = func(n api.Node) {
		spots = spots || n.Kind >= api.NodeBegin
		for _, kid := range n.Kids {
			look(kid)
		}
	}
	look(n)
	if spots {
		return
	}
	var within [][2]int
	for _, x := range Spans(n, []byte("ab"+string(s)+"\nc")) {
		if x[0] >= 2 && x[1] <= 2+len(s) {
			within = append(within, [2]int{x[0] - 2, x[1] - 2})
		}
	}
	if got := Spans(n, s); !slices.Equal(got, within) {
		t.Fatalf("%v on %q: %v, not %v", n, s, got, within)
	}
}

// R1: the greatest trees on the most bytes end.
func TestGreatest(t *testing.T) {
	s := bytes.Repeat([]byte("ab"), 100)
	n := read(t, "[ab]|ab")
	for range 1990 {
		n = api.Node{Kind: api.NodeRepeat, Min: 0, Max: 100, Kids: []api.Node{n}}
	}
	if got := len(Spans(n, s)); got != 201*202/2 {
		t.Errorf("%d", got)
	}
	n = read(t, "a?")
	for range 40 {
		n = api.Node{Kind: api.NodeRepeat, Min: 100, Max: 100, Kids: []api.Node{n}}
	}
	if got := len(Spans(n, s)); got != 201+100 {
		t.Errorf("%d", got)
	}
	wide := api.Node{Kind: api.NodeAlt, Kids: slices.Repeat([]api.Node{read(t, "a")}, 1999)}
	if got := len(Spans(wide, []byte(strings.Repeat("a", 200)))); got != 200 {
		t.Errorf("%d", got)
	}
}

// R3: what is told is new, and the bytes are as they were.
func TestMemory(t *testing.T) {
	n, s := read(t, "(a|b)*"), []byte("abab")
	spans := Spans(n, s)
	spans[0] = [2]int{9, 9}
	check(t, n, s)
	if string(s) != "abab" {
		t.Errorf("%q", s)
	}
}

// P12.1: places that are gone through are left where a loop ends.
func TestPlacesAreLeft(t *testing.T) {
	var l row
	l.add(3)
	l.add(200)
	for i := range l.places() {
		if i != 3 {
			t.Errorf("%d", i)
		}
		break
	}
}
