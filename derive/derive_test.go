package derive

import (
	"math/rand"
	"reflect"
	"strings"
	"testing"

	"mudlark/api"
	"mudlark/chance"
	"mudlark/gram"
	"mudlark/know"
	"mudlark/prog"
	"mudlark/query"
	"mudlark/span"
	"mudlark/syntax"
	"mudlark/tree"
)

// plainRegex is P18.1 as its words say it.
func plainRegex(regex string, f api.Flags) (Plan, int, api.Errno) {
	n, _, at, e := syntax.Parse(regex, f)
	if e != api.OK {
		return Plan{}, at, e
	}
	simple, e := tree.Simple(n)
	if e != api.OK {
		return Plan{}, 0, e
	}
	p, e := prog.Make(simple)
	if e != api.OK {
		return Plan{}, 0, e
	}
	return Plan{simple, p, know.Closed(know.Of(simple))}, 0, api.OK
}

// check holds a regex's plan against the plain one.
func check(t *testing.T, regex string, f api.Flags) (Plan, int, api.Errno) {
	t.Helper()
	p, at, e := Regex(regex, f)
	want, wantAt, wantE := plainRegex(regex, f)
	if !reflect.DeepEqual(p, want) || at != wantAt || e != wantE {
		t.Fatalf("%s: %v, %d, %d, not %v, %d, %d", regex, p, at, e, want, wantAt, wantE)
	}
	return p, at, e
}

func leaf(b byte) api.Node {
	n := api.Node{Kind: api.NodeSet}
	n.Set[b/64] |= 1 << (b % 64)
	return n
}

func over(kind api.NodeKind, kids ...api.Node) api.Node { return api.Node{Kind: kind, Kids: kids} }

// P18.1: the chapter's example, and others of the document.
func TestExamples(t *testing.T) {
	for _, l := range []struct {
		regex, query string
		flags        api.Flags
	}{
		{"abc?d", "(616264|(616263&626364))", api.Flags{}},
		{"a.*bcd", "(626364)", api.Flags{}},
		{"a.c", "+", api.Flags{}},
		{"[^\\d\\D]", "-", api.Flags{}},
		{"", "+", api.Flags{}},
		{"abc", "(616263)", api.Flags{}},
		{"abc", "(414243|414263|416243|416263|614243|614263|616243|616263)", api.Flags{Fold: true}},
		{"a.bcd$", "(626364)", api.Flags{All: true, Lines: true}},
	} {
		p, at, e := check(t, l.regex, l.flags)
		if query.Text(p.Query) != l.query || at != 0 || e != api.OK || !prog.Right(p.Prog) || !tree.Right(p.Tree) {
			t.Errorf("%s: %s, %d, %d", l.regex, query.Text(p.Query), at, e)
		}
	}
	p, _, _ := Regex("abc?d", api.Flags{})
	c := api.Node{Kind: api.NodeRepeat, Max: 1, Kids: []api.Node{leaf('c')}}
	if !reflect.DeepEqual(p.Tree, over(api.NodeCat, leaf('a'), leaf('b'), c, leaf('d'))) || len(p.Prog) != 8 {
		t.Errorf("%v", p)
	}
}

// P18.1: each error, its place, and nothing beside it.
func TestErrors(t *testing.T) {
	for _, l := range []struct {
		regex string
		at    int
		e     api.Errno
	}{
		{strings.Repeat("a", 1001), 0, api.ErrLong}, {"ab[c", 2, api.ErrSyntax}, {"a(b))", 4, api.ErrSyntax}, {"ab(", 2, api.ErrSyntax}, {"ab**", 3, api.ErrSyntax}, {"abc{101}", 3, api.ErrRepeat}, {"a{3,2}", 1, api.ErrRepeat},
		{strings.Repeat("()", 21), 0, api.ErrSize}, {strings.Repeat("(?:", 60) + "ab" + strings.Repeat("|c)", 60), 0, api.ErrDeep}, {"x(?:a{100}){20}", 0, api.ErrSize}, {"(?:a{50}){50}", 0, api.ErrSize},
	} {
		if p, at, e := check(t, l.regex, api.Flags{}); at != l.at || e != l.e || !reflect.DeepEqual(p, Plan{}) {
			t.Errorf("%s: %v, %d, %d", l.regex, p, at, e)
		}
	}
	for _, regex := range []string{strings.Repeat("a", 1000), "x(?:a{100}){19}", strings.Repeat("(a)", 20)} {
		if _, _, e := check(t, regex, api.Flags{}); e != api.OK {
			t.Errorf("%s: %d", regex, e)
		}
	}
}

// P18.1, P18.3, R4: regexes of chance as the plain words have it, alike each time; what they match satisfies their query.
func TestChance(t *testing.T) {
	r := rand.New(rand.NewSource(181))
	draw := chance.Draw(r.Intn)
	matched, narrow := 0, 0
	for range 3000 {
		regex, texts := draw.Regex(3)+[]string{"", "ab", "[ab]+c", ")", "a{2"}[r.Intn(5)], [][]byte{draw.Text(30), draw.Text(30), draw.Text(30)}
		if at := r.Intn(24); r.Intn(2) == 0 && at+4 < len(texts[0]) {
			regex = draw.Regex(1) + quoted(r, string(texts[0][at:at+4])) + "(?:a|" + draw.Regex(1) + ")"
		}
		f := api.Flags{Fold: r.Intn(4) == 0, Lines: r.Intn(2) == 0, All: r.Intn(2) == 0}
		p, _, e := check(t, regex, f)
		check(t, regex, f)
		for _, text := range texts {
			if e != api.OK || !span.Find(p.Tree, text) {
				continue
			}
			if matched++; p.Query.Kind != api.QueryAll {
				narrow++
			}
			if !query.Sat(p.Query, gram.Grams(text)) {
				t.Fatalf("%s in %q: %s", regex, text, query.Text(p.Query))
			}
		}
	}
	if matched < 2000 || narrow < 100 {
		t.Errorf("%d, %d", matched, narrow)
	}
}

// P18.2: the query of all.
func TestAll(t *testing.T) {
	plan := func(regex string) Plan {
		p, _, _ := Regex(regex, api.Flags{})
		return p
	}
	for i, l := range []struct {
		plans []Plan
		text  string
	}{
		{nil, "+"}, {[]Plan{plan("abc")}, "(616263)"}, {[]Plan{plan("bcd"), plan("a"), plan("abc")}, "(616263&626364)"}, {[]Plan{plan("abc|bcd"), plan("x[^\\D\\d]")}, "-"}, {[]Plan{plan("abc|bcd"), plan("abc")}, "(616263&(616263|626364))"}, {[]Plan{plan("abc"), {}}, "-"}, {[]Plan{plan("."), plan("")}, "+"},
	} {
		if text := query.Text(All(l.plans...)); text != l.text {
			t.Errorf("%d: %s, not %s", i, text, l.text)
		}
	}
	plans := []Plan{plan("abc"), plan("bcd|cde")}
	q := All(plans...)
	q.Grams[0], q.Subs[0].Grams[0] = "?", "?"
	if query.Text(All(plans...)) != "(616263&(626364|636465))" {
		t.Error("shared")
	}
}

// P18.2: trees that match one text alone, and others.
func TestLiteral(t *testing.T) {
	two := leaf('a')
	two.Set[2] = 1
	group := func(kids ...api.Node) api.Node { return api.Node{Kind: api.NodeGroup, Group: 1, Kids: kids} }
	for i, l := range []struct {
		n    api.Node
		text string
		ok   bool
	}{
		{leaf('a'), "a", true}, {leaf(0), "\x00", true}, {leaf(255), "\xff", true}, {leaf(64), "@", true}, {two, "", false}, {over(api.NodeSet), "", false}, {over(api.NodeEmpty), "", true},
		{group(leaf('a')), "a", true}, {group(over(api.NodeEmpty)), "", true}, {group(two), "", false}, {group(), "", false}, {over(api.NodeCat), "", true},
		{over(api.NodeCat, leaf('a'), group(over(api.NodeCat, leaf('b'), over(api.NodeEmpty))), leaf('c')), "abc", true},
		{over(api.NodeCat, leaf('a'), over(api.NodeBegin)), "", false}, {over(api.NodeCat, leaf('a'), group(over(api.NodeCat, leaf('b'), over(api.NodeNone))), leaf('c')), "", false},
		{over(api.NodeAlt, leaf('a'), leaf('a')), "", false}, {over(api.NodeAlt, leaf('a')), "", false}, {api.Node{Kind: api.NodeRepeat, Min: 1, Max: 1, Kids: []api.Node{leaf('a')}}, "", false}, {api.Node{}, "", false}, {over(14), "", false}, {over(-1), "", false}, {over(api.NodeNone), "", false}, {over(api.NodeWord), "", false}, {over(api.NodeLineEnd), "", false},
	} {
		if text, ok := Literal(l.n); text != l.text || ok != l.ok {
			t.Errorf("%d: %q, %v", i, text, ok)
		}
	}
	deep := leaf('a')
	for range 1 << 20 {
		deep = group(deep)
	}
	if text, ok := Literal(deep); text != "a" || !ok {
		t.Errorf("deep: %q, %v", text, ok)
	}
}

// quoted is a text as a regex, some of it in groups.
func quoted(r *rand.Rand, text string) string {
	const signs = `\.+*?()|[]{}^$`
	if len(text) > 1 && r.Intn(2) == 0 {
		at := 1 + r.Intn(len(text)-1)
		open := []string{"(?:", "(?s:"}[r.Intn(2)]
		return quoted(r, text[:at]) + open + quoted(r, text[at:]) + ")"
	}
	var out strings.Builder
	for _, b := range []byte(text) {
		if strings.IndexByte(signs, b) >= 0 {
			out.WriteByte('\\')
		}
		out.WriteByte(b)
	}
	return out.String()
}

// P18.3, P2: a literal's query is just its trigrams, of whatever length and however it is grouped.
func TestLiteralsQuery(t *testing.T) {
	r := rand.New(rand.NewSource(182))
	for range 2000 {
		b := make([]byte, r.Intn([]int{6, 50, 200}[r.Intn(3)]))
		for i := range b {
			b[i] = "abcd.*\n\xff(x"[r.Intn(10)]
		}
		text := string(b)
		p, _, e := check(t, quoted(r, text), api.Flags{})
		got, ok := Literal(p.Tree)
		if e == api.ErrDeep {
			continue
		}
		if e != api.OK || got != text || !ok {
			t.Fatalf("%q: %q, %v, %d", text, got, ok, e)
		}
		if want := query.Grams(gram.Run(text)...); !reflect.DeepEqual(p.Query, want) {
			t.Fatalf("%q: %s", text, query.Text(p.Query))
		}
	}
}

// R3: what is handed out is new memory.
func TestMemory(t *testing.T) {
	p, _, _ := Regex("ab[cd]e|(x*)", api.Flags{})
	clear(p.Tree.Kids)
	clear(p.Prog)
	p.Query.Grams = append(p.Query.Grams[:0], "?")
	check(t, "ab[cd]e|(x*)", api.Flags{})
}
