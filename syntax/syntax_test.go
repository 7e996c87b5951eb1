package syntax

import (
	"math/rand"
	"strings"
	"testing"

	"mudlark/api"
	"mudlark/chance"
	"mudlark/lex"
)

// check holds a regex's tree against the plain one.
func check(t *testing.T, regex string, f api.Flags) {
	t.Helper()
	n, groups, at, e := Parse(regex, f)
	wantN, wantGroups, wantAt, wantE := plainParse(regex, f)
	if !same(n, wantN) || groups != wantGroups || at != wantAt || e != wantE {
		t.Fatalf("%q, %v: %v, %d, %d, %d, not %v, %d, %d, %d", regex, f, n, groups, at, e, wantN, wantGroups, wantAt, wantE)
	}
}

// of is the set of a text's bytes.
func of(bytes string) api.Set {
	var s api.Set
	for _, b := range []byte(bytes) {
		s[b/64] |= 1 << (b % 64)
	}
	return s
}

// one is the node of a set of bytes.
func one(bytes string) api.Node { return api.Node{Kind: api.NodeSet, Set: of(bytes)} }

// kids is a node of a kind that has kids.
func kids(kind api.NodeKind, l ...api.Node) api.Node { return api.Node{Kind: kind, Kids: l} }

// group is a node in a group.
func group(number int, n api.Node) api.Node {
	return api.Node{Kind: api.NodeGroup, Group: number, Kids: []api.Node{n}}
}

// star is a node any times.
func star(n api.Node) api.Node {
	return api.Node{Kind: api.NodeRepeat, Max: -1, Kids: []api.Node{n}}
}

// P10.1: the chapter's example, and one of each row of its tables.
func TestTrees(t *testing.T) {
	a, b, empty := one("a"), one("b"), api.Node{Kind: api.NodeEmpty}
	all := api.Set{1<<64 - 1, 1<<64 - 1, 1<<64 - 1, 1<<64 - 1}
	noFeed := all
	noFeed[0] -= 1 << 10
	noK := all
	noK[1] &^= of("k")[1]
	noKs := all
	noKs[1] &^= of("kK")[1]
	node := func(k api.NodeKind) api.Node { return api.Node{Kind: k} }
	inSet := func(s api.Set) api.Node { return api.Node{Kind: api.NodeSet, Set: s} }
	for regex, want := range map[string]api.Node{
		"a|(b*)c": kids(api.NodeAlt, a, kids(api.NodeCat, group(1, star(b)), one("c"))),
		"":        empty, "a": a, "ab": kids(api.NodeCat, a, b), "a|b|": kids(api.NodeAlt, a, b, empty), "|": kids(api.NodeAlt, empty, empty),
		"()": group(1, empty), "(?:)": empty, "(?:a)": a, "(?:ab)c": kids(api.NodeCat, kids(api.NodeCat, a, b), one("c")), "(?:a|b)|": kids(api.NodeAlt, kids(api.NodeAlt, a, b), empty),
		"((a)b)(b)": kids(api.NodeCat, group(1, kids(api.NodeCat, group(2, a), b)), group(3, b)),
		"a{2,5}?":   {Kind: api.NodeRepeat, Min: 2, Max: 5, Lazy: true, Kids: []api.Node{a}},
		"(?:a*)*":   star(star(a)), "^*": star(node(api.NodeBegin)), "()*": star(group(1, empty)),
		"^$": kids(api.NodeCat, node(api.NodeBegin), node(api.NodeEnd)), "(?m)^$": kids(api.NodeCat, node(api.NodeLineBegin), node(api.NodeLineEnd)),
		`(?m)\A\z\b\B`: kids(api.NodeCat, node(api.NodeBegin), node(api.NodeEnd), node(api.NodeWord), node(api.NodeNotWord)),
		".":            inSet(noFeed), "(?s).": inSet(all), "(?s-s).": inSet(noFeed),
		"[^k]": inSet(noK), "(?i)[^k]": inSet(noKs), "(?i)k": one("kK"), "(?i-i)k": one("k"), `[^\d\D]`: node(api.NodeNone), `(?i)[^\W\w]*`: star(node(api.NodeNone)),
		"(?:(?i)a|a)a":  kids(api.NodeCat, kids(api.NodeAlt, one("aA"), one("aA")), a),
		"((?i)a)a":      kids(api.NodeCat, group(1, one("aA")), a),
		"(?i:a)a":       kids(api.NodeCat, one("aA"), a),
		"(?i)(?-i:a)a":  kids(api.NodeCat, a, one("aA")),
		"a(?i)b|a(?-i)": kids(api.NodeAlt, kids(api.NodeCat, a, one("bB")), one("aA")),
		"(?i)":          empty, "(?i)|": kids(api.NodeAlt, empty, empty),
	} {
		groups := strings.Count(regex, "(") - strings.Count(regex, "(?")
		if n, g, at, e := Parse(regex, api.Flags{}); !same(n, want) || g != groups || at != 0 || e != api.OK {
			t.Errorf("%s: %v, %d, %d, %d, not %v", regex, n, g, at, e, want)
		}
	}
}

// P10.1: flags that are given are as if they stood ahead of the regex.
func TestGivenFlags(t *testing.T) {
	for _, regex := range []string{"k", "[^k]", ".", "^$", "(?-ims:k.^$)", "(?-i)k|k", "((?-s).).", `\A\z\W`} {
		for letters, f := range map[string]api.Flags{"i": {Fold: true}, "m": {Lines: true}, "s": {All: true}, "ims": {Fold: true, Lines: true, All: true}} {
			n, _, _, _ := Parse(regex, f)
			want, _, _, _ := Parse("(?"+letters+")"+regex, api.Flags{})
			if !same(n, want) || n.Kind == 0 {
				t.Errorf("%s, %s: %v, not %v", regex, letters, n, want)
			}
			check(t, regex, f)
		}
	}
}

// P10.1: what is wrong, in the table's order.
func TestWrong(t *testing.T) {
	for regex, want := range map[string]struct {
		at int
		e  api.Errno
	}{
		`)\c`: {1, api.ErrSyntax}, "*a{7,1}": {2, api.ErrRepeat}, strings.Repeat(")", 1001): {0, api.ErrLong},
		")": {0, api.ErrSyntax}, "(a))": {3, api.ErrSyntax}, "a|b)": {3, api.ErrSyntax}, "*": {0, api.ErrSyntax}, "{2}a": {0, api.ErrSyntax},
		"a(*": {2, api.ErrSyntax}, "(?i:+": {4, api.ErrSyntax}, "a(?i)?": {5, api.ErrSyntax}, "a|{3}": {2, api.ErrSyntax}, "a**": {2, api.ErrSyntax}, "a{2}{3}": {4, api.ErrSyntax}, "a*??": {3, api.ErrSyntax},
		"((a|*)": {4, api.ErrSyntax}, "((a)))*": {5, api.ErrSyntax}, "(a)**)": {4, api.ErrSyntax},
		"(": {0, api.ErrSyntax}, "((": {1, api.ErrSyntax}, "(a(b)": {0, api.ErrSyntax}, "a(?i:b(c|d)": {1, api.ErrSyntax}, "(a)(?:": {3, api.ErrSyntax},
		strings.Repeat("(", 21): {20, api.ErrSyntax}, strings.Repeat("()", 21): {0, api.ErrSize}, strings.Repeat("()", 21) + ")": {42, api.ErrSyntax},
		strings.Repeat("()", 21) + nested(60): {0, api.ErrSize}, nested(50): {0, api.ErrDeep}, nested(51): {0, api.ErrDeep},
	} {
		n, groups, at, e := Parse(regex, api.Flags{})
		if !same(n, api.Node{}) || groups != 0 || at != want.at || e != want.e {
			t.Errorf("%s: %v, %d, %d, %d", regex, n, groups, at, e)
		}
		check(t, regex, api.Flags{Fold: true})
	}
}

// nested is a regex that is one deeper than so many stars.
func nested(stars int) string {
	return strings.Repeat("(?:", stars) + "a" + strings.Repeat("*)", stars)
}

// P10.1: as many groups, and as deep, as may be.
func TestGreatest(t *testing.T) {
	for _, regex := range []string{strings.Repeat("()", 20), strings.Repeat("(", 20) + strings.Repeat(")*", 20), strings.Repeat("(?:", 250) + strings.Repeat(")", 250), nested(49), "(" + nested(48) + ")", strings.Repeat("|", 1000), strings.Repeat("a*", 500)} {
		if n, _, _, e := Parse(regex, api.Flags{}); e != api.OK || n.Kind == 0 {
			t.Errorf("%s: %d", regex, e)
		}
		check(t, regex, api.Flags{})
	}
	if size, deep := measure(kids(api.NodeCat, star(one("a")), one("b"))); size != 4 || deep != 3 {
		t.Errorf("%d, %d", size, deep)
	}
}

// P10.1: all rows of few words are read as the plain ones.
func TestShortAgainstPlain(t *testing.T) {
	pieces := strings.Fields(`k ( (?: (?i: (?i) ) | * ^ [^k]`)
	regexes := []string{""}
	for range 5 {
		var longer []string
		for _, regex := range regexes {
			for _, piece := range pieces {
				longer = append(longer, regex+piece)
			}
		}
		for _, regex := range longer {
			check(t, regex, api.Flags{})
		}
		regexes = longer
	}
}

// P10.1, R4: regexes of chance are read as the plain ones, and alike each time.
func TestChanceAgainstPlain(t *testing.T) {
	r := rand.New(rand.NewSource(101))
	right := 0
	for range 40000 {
		regex, f := chance.Draw(r.Intn).Regex(5), someFlags(r)
		check(t, regex, f)
		check(t, regex, f)
		check(t, someRegex(r, 14), f)
		if _, _, _, e := Parse(regex, f); e == api.OK {
			right++
		}
	}
	if right < 30000 {
		t.Errorf("%d alone", right)
	}
}

// numberedOn is a tree whose groups are numbered so much further on.
func numberedOn(n api.Node, by int) api.Node {
	if n.Group > 0 {
		n.Group += by
	}
	l := n.Kids
	n.Kids = nil
	for _, kid := range l {
		n.Kids = append(n.Kids, numberedOn(kid, by))
	}
	return n
}

// P10.2: two trees behind each other, as alternatives, in a group, repeated.
func TestWhatFollows(t *testing.T) {
	r := rand.New(rand.NewSource(102))
	told := 0
	for range 20000 {
		a, b, f := chance.Draw(r.Intn).Regex(3), chance.Draw(r.Intn).Regex(3), someFlags(r)
		first, g, _, e := Parse(a, f)
		second, h, _, e2 := Parse(b, f)
		if e != 0 || e2 != 0 || strings.Contains(a+b, "[:") || g+h > 19 {
			continue
		}
		told++
		for regex, want := range map[string]api.Node{
			"(?:" + a + ")(?:" + b + ")":  kids(api.NodeCat, first, numberedOn(second, g)),
			"(?:" + a + ")|(?:" + b + ")": kids(api.NodeAlt, first, numberedOn(second, g)),
			"(" + a + ")":                 group(1, numberedOn(first, 1)),
			"(?:" + a + ")*":              star(first),
			"(?:" + a + ")":               first,
		} {
			if n, _, at, e := Parse(regex, f); e != 0 || at != 0 || !same(n, want) {
				t.Fatalf("%s: %v, %d, not %v", regex, n, e, want)
			}
		}
	}
	if told < 8000 {
		t.Errorf("%d alone", told)
	}
}

// R3: no two lists of a tree share memory, and none is kept.
func TestNodesAreNew(t *testing.T) {
	const regex = "(a|b)(a|b)*(c|)d|(?:e)"
	n, _, _, _ := Parse(regex, api.Flags{})
	spoil(&n)
	check(t, regex, api.Flags{})
	r := rand.New(rand.NewSource(103))
	for range 2000 {
		n, _, _, _ := Parse(chance.Draw(r.Intn).Regex(4), api.Flags{})
		seen := map[*api.Node]bool{}
		nodes(n, 0, func(n api.Node, _ int) {
			for i := range n.Kids[:cap(n.Kids)] {
				if seen[&n.Kids[:cap(n.Kids)][i]] {
					t.Fatal("shared")
				}
				seen[&n.Kids[:cap(n.Kids)][i]] = true
			}
		})
	}
}

// spoil overwrites all nodes of a tree.
func spoil(n *api.Node) {
	for i := range n.Kids {
		spoil(&n.Kids[i])
	}
	*n = api.Node{}
}

// P10.1: words that are gone through are left where a loop ends.
func TestWordsAreLeft(t *testing.T) {
	l, _, _ := lex.Words("abc")
	w := words{l}
	for range w.each() {
		break
	}
	if len(w.left) != 2 {
		t.Errorf("%v", w.left)
	}
}
