package know

import (
	"math/rand"
	"slices"
	"strings"
	"testing"

	"mudlark/api"
	"mudlark/chance"
	"mudlark/gram"
	"mudlark/query"
	"mudlark/span"
	"mudlark/syntax"
	"mudlark/tree"
)

// parsed is a regex's simple tree.
func parsed(t *testing.T, regex string) api.Node {
	t.Helper()
	n, _, _, e := syntax.Parse(regex, api.Flags{})
	if e != api.OK {
		t.Fatal(regex, e)
	}
	n, e = tree.Simple(n)
	if e != api.OK {
		t.Fatal(regex, e)
	}
	return n
}

// bytesSet is the set of a text's bytes.
func bytesSet(text string) (s api.Set) {
	for _, b := range []byte(text) {
		s[b/64] |= 1 << (b % 64)
	}
	return s
}

func leaf(text string) api.Node { return api.Node{Kind: api.NodeSet, Set: bytesSet(text)} }

func over(kind api.NodeKind, kids ...api.Node) api.Node { return api.Node{Kind: kind, Kids: kids} }

func times(low, high int, kids ...api.Node) api.Node {
	return api.Node{Kind: api.NodeRepeat, Min: low, Max: high, Kids: kids}
}

// check holds what is known of a node, and its query, against the plain words.
func check(t *testing.T, n api.Node) Info {
	t.Helper()
	got, want := Of(n), plainOf(n)
	if !alike(got, want) {
		t.Fatalf("%v: %v, not %v", n, got, want)
	}
	if q := Closed(got); !sameQuery(q, plainClosed(want)) {
		t.Fatalf("%v: closed %s", n, query.Text(q))
	}
	return got
}

// P17.1, P17.2: the chapter's examples, and others.
func TestExamples(t *testing.T) {
	for _, l := range []struct {
		regex                 string
		exact, prefix, suffix string
		known                 bool
		closed                string
	}{
		{"ab[cd]", "abc abd", "", "", true, "(616263|616264)"},
		{"a.*bcd", "", "a", "cd", false, "(626364)"},
		{"abcd", "abcd", "", "", true, "(616263&626364)"},
		{"ab", "ab", "", "", true, "+"},
		{"abc|bcd?e", "abc bcde bce", "", "", true, "(616263|626365|(626364&636465))"},
		{"a.c", "", "a", "c", false, "+"},
		{"(abc)+", "", "ab", "", false, "(616263)"},
		{"(abcd){2}", "abcdabcd", "", "", true, "(616263&626364&636461&646162)"},
		{"x*abc", "", "", "bc", false, "(616263)"},
		{"abc(x+|y)def", "", "ab", "ef", false, "(646566&((616263&626378)|(616263&626379)))"},
		{"(x+y|x+z)(bc+|bd+)", "", "x", "", false, "(796263|796264|7a6263|7a6264)"},
		{"[a-h]x", "ax bx cx dx ex fx gx hx", "", "", true, "+"},
		{"[a-i]x", "", "", "x", false, "+"},
		{"^ab$", "ab", "", "", true, "+"},
		{"[ab][ab][ab]", "aaa aab aba abb baa bab bba bbb", "", "", true, "(616161|616162|616261|616262|626161|626162|626261|626262)"},
	} {
		got := check(t, parsed(t, l.regex))
		if got.Known != l.known || strings.Join(got.Exact, " ") != l.exact || strings.Join(got.Prefix, " ") != l.prefix && got.Prefix[0] != "" || strings.Join(got.Suffix, " ") != l.suffix {
			t.Errorf("%s: %v", l.regex, got)
		}
		if text := query.Text(Closed(got)); text != l.closed {
			t.Errorf("%s: %s, not %s", l.regex, text, l.closed)
		}
	}
}

// P17.1: each row of the table, and kids that are not there.
func TestTable(t *testing.T) {
	none, empty := over(api.NodeNone), over(api.NodeEmpty)
	wide := leaf("abcdefghi")
	for i, l := range []struct {
		n     api.Node
		exact string // "-": not exact
	}{
		{empty, "()"}, {none, ""}, {over(api.NodeBegin), "()"}, {over(api.NodeEnd), "()"}, {over(api.NodeLineBegin), "()"}, {over(api.NodeLineEnd), "()"}, {over(api.NodeWord), "()"}, {over(api.NodeNotWord), "()"},
		{over(0), ""}, {over(14), ""}, {over(-1, leaf("a")), ""}, {over(api.NodeBegin, none), "()"},
		{leaf(""), ""}, {leaf("a"), "(a)"}, {leaf("hgfedcba"), "(a)(b)(c)(d)(e)(f)(g)(h)"}, {wide, "-"}, {leaf("\x00\x3f\x40\xff"), "(\x00)(?)(@)(\xff)"},
		{over(api.NodeGroup, leaf("ab")), "(a)(b)"}, {over(api.NodeGroup), ""}, {over(api.NodeGroup, leaf("a"), leaf("b")), "(a)"}, {over(api.NodeGroup, wide), "-"},
		{over(api.NodeCat), "()"}, {over(api.NodeCat, leaf("ab")), "(a)(b)"}, {over(api.NodeCat, leaf("ab"), leaf("ba")), "(aa)(ab)(ba)(bb)"}, {over(api.NodeCat, leaf("a"), none), ""}, {over(api.NodeCat, leaf("a"), wide), "-"},
		{over(api.NodeAlt), ""}, {over(api.NodeAlt, leaf("b")), "(b)"}, {over(api.NodeAlt, leaf("b"), empty, leaf("ab")), "()(a)(b)"}, {over(api.NodeAlt, none, leaf("a")), "(a)"}, {over(api.NodeAlt, leaf("abcde"), leaf("fgh")), "(a)(b)(c)(d)(e)(f)(g)(h)"}, {over(api.NodeAlt, leaf("abcde"), leaf("fghi")), "-"},
		{times(0, 0, leaf("a")), "()"}, {times(7, 0, leaf("a")), "()"}, {times(0, 0), "()"}, {times(1, 1, leaf("ab")), "(a)(b)"}, {times(1, 1), ""}, {times(0, 1, leaf("a")), "()(a)"}, {times(-3, 1, leaf("a")), "()(a)"}, {times(0, 1), "()"}, {times(0, 1, wide), "-"},
		{times(0, -1, leaf("a")), "-"}, {times(-1, 2, leaf("a")), "-"}, {times(0, 2), "-"}, {times(1, 2, leaf("a")), "-"}, {times(1, -1, leaf("a")), "-"}, {times(2, 2, leaf("a")), "-"}, {times(2, 1, leaf("a")), "-"}, {times(2, 2), "-"},
	} {
		got := check(t, l.n)
		exact := ""
		for _, text := range got.Exact {
			exact += "(" + text + ")"
		}
		if !got.Known {
			exact += "-"
		}
		if exact != l.exact || !query.Right(got.Match) || got.Known && got.Match.Kind != api.QueryAll {
			t.Errorf("%d: %v", i, got)
		}
	}
	if got := Of(times(2, 2)); got.Match.Kind != api.QueryNone || len(got.Prefix)+len(got.Suffix) > 0 {
		t.Errorf("two of none: %v", got)
	}
	if got := Of(times(1, -1, leaf("ba"))); strings.Join(got.Prefix, "") != "ab" || strings.Join(got.Suffix, "") != "ab" {
		t.Errorf("repeat: %v", got)
	}
}

// P17.1: rows that are too great, or have texts that are too long, and those that are just not.
func TestLimits(t *testing.T) {
	long := strings.Repeat("a", 39)
	for _, l := range []struct {
		regex string
		known bool
	}{
		{long + "b", true}, {long + "bc", false}, {"(" + long + "b){1}", true}, {"[a-h]", true}, {"[a-i]", false}, {"[ab][a-d]", true}, {"[abc][abc]", false}, {"a|b|c|d|e|f|g|h", true}, {"a|b|c|d|e|f|g|h|i", false}, {"a|b|c|d|e|f|g|h|a", true}, {"a|b|c|d|e|f|g|h|", false},
	} {
		if got := check(t, parsed(t, l.regex)); got.Known != l.known {
			t.Errorf("%s: %v", l.regex, got)
		}
	}
	exact := func(texts ...string) Info {
		return Info{Known: true, Exact: texts, Match: api.Query{Kind: api.QueryAll}}
	}
	for i, l := range []struct {
		info   Info
		prefix string
	}{
		{Or(exact("abc", "abd", "acx"), exact(strings.Fields("ad ae af ag ah ai")...)), "ab ac ad ae af ag ah ai"},
		{Or(exact("abc", "abd", "acx"), exact(strings.Fields("ad ae af ag ah bi bj")...)), "a b"},
		{Or(exact("abc", "b"), exact(strings.Fields("c d e f g h i")...)), ""},
		{Or(exact("abc", "bb"), exact(strings.Fields("ccc dd ee fff g h aa")...)), "a b c d e f g h"},
		{Or(exact("abc", ""), exact(strings.Fields("ad ae af ag ah ai ax")...)), ""},
		{Or(exact("", "b"), Info{Prefix: []string{"c"}, Suffix: []string{"cc"}, Match: api.Query{Kind: api.QueryAll}}), ""},
	} {
		if strings.Join(l.info.Prefix, " ") != l.prefix || l.info.Known || l.prefix == "" && len(l.info.Prefix) != 1 {
			t.Errorf("%d: %v", i, l.info)
		}
	}
}

// P17.1: the grams of rows.
func TestGrams(t *testing.T) {
	for i, l := range []struct {
		row  []string
		text string
	}{
		{nil, "-"}, {[]string{}, "-"}, {[]string{""}, "+"}, {[]string{"ab"}, "+"}, {[]string{"abc"}, "(616263)"}, {[]string{"abc", "ab", "bcd"}, "+"}, {[]string{"bcd", "abc"}, "(616263|626364)"}, {[]string{"abc", "abcd"}, "(616263|(616263&626364))"}, {[]string{"abab", "abab"}, "(616261&626162)"}, {[]string{"\x00\xffaa"}, "(00ff61&ff6161)"},
	} {
		got := Grams(l.row)
		if query.Text(got) != l.text || !sameQuery(got, plainGrams(textsOf(l.row...))) {
			t.Errorf("%d: %s", i, query.Text(got))
		}
	}
}

// P17.1, P17.2, R4: whatever infos, right ones or not, as the plain words have it, and alike each time.
func TestWhateverInfos(t *testing.T) {
	r := rand.New(rand.NewSource(171))
	known := 0
	for range 6000 {
		a, b := someInfo(r), someInfo(r)
		for range 2 {
			if got := Behind(a, b); !alike(got, plainBehind(plain(a), plain(b))) {
				t.Fatalf("%v behind %v: %v", b, a, got)
			}
			if got := Or(a, b); !alike(got, plainOr(plain(a), plain(b))) {
				t.Fatalf("%v or %v: %v", a, b, got)
			}
			if got := Closed(a); !sameQuery(got, plainClosed(plain(a))) {
				t.Fatalf("%v: closed %v", a, got)
			}
			if got := Grams(a.Prefix); !sameQuery(got, plainGrams(textsOf(a.Prefix...))) {
				t.Fatalf("%v: grams %v", a, got)
			}
		}
		if Or(a, b).Known {
			known++
		}
	}
	if known < 500 {
		t.Errorf("%d", known)
	}
}

// holds says whether what is known of a tree is so of a text that it matches, and of the bytes in which that stands.
func holds(i Info, text string, around []byte) bool {
	begins := func(l string) bool { return strings.HasPrefix(text, l) }
	ends := func(l string) bool { return strings.HasSuffix(text, l) }
	grams := gram.Grams(around)
	if !query.Sat(Closed(i), grams) || !query.Sat(i.Match, grams) {
		return false
	}
	if i.Known {
		return slices.Contains(i.Exact, text)
	}
	return slices.ContainsFunc(i.Prefix, begins) && slices.ContainsFunc(i.Suffix, ends)
}

// P17.1 to P17.3: trees of chance as the plain words have it, and what they match is as it is known of them.
func TestWhatFollows(t *testing.T) {
	r := rand.New(rand.NewSource(172))
	draw := chance.Draw(r.Intn)
	matched, exact := 0, 0
	for range 6000 {
		n := draw.Tree(4)
		if r.Intn(3) == 0 {
			n, _, _, _ = syntax.Parse(draw.Regex(3), api.Flags{Fold: r.Intn(2) == 0})
		}
		i := check(t, n)
		if !query.Right(i.Match) || !query.Right(Closed(i)) {
			t.Fatalf("%v: %v", n, i)
		}
		text := draw.Text(24)
		for _, s := range span.Spans(n, text) {
			if matched++; i.Known {
				exact++
			}
			if !holds(i, string(text[s[0]:s[1]]), text) {
				t.Fatalf("%v in %q at %v: %v", n, text, s, i)
			}
		}
	}
	if matched < 20000 || exact < 2000 {
		t.Errorf("%d, %d", matched, exact)
	}
}

// R1: very deep trees, very wide ones, and regexes of which very much is known.
func TestGreat(t *testing.T) {
	n := leaf("ab")
	for range 1 << 20 {
		n = over(api.NodeGroup, n)
	}
	if got := Of(n); !got.Known || len(got.Exact) != 2 {
		t.Errorf("%v", got)
	}
	if got := Of(over(api.NodeAlt, slices.Repeat([]api.Node{leaf("ab")}, 20000)...)); !got.Known || len(got.Exact) != 2 {
		t.Errorf("%v", got)
	}
	for _, regex := range []string{strings.Repeat("[ab]", 250), strings.Repeat("(x[a-d]+|y)", 18), strings.Repeat("[abcdefgh].", 76), strings.Repeat("abcdefgh.", 111), strings.Repeat("(ab|cd|ef(", 10) + strings.Repeat("))", 10)} {
		check(t, parsed(t, regex))
	}
}

// R3: infos that are handed in stay as they are, and what is handed out is new memory.
func TestMemory(t *testing.T) {
	r := rand.New(rand.NewSource(173))
	for range 3000 {
		a, b := someInfo(r), someInfo(r)
		for _, made := range []func(a, b Info) Info{Behind, Or} {
			got, before := made(a, b), made(a, b)
			overwrite(got.Exact)
			overwrite(got.Prefix)
			overwrite(got.Match.Grams)
			if !slices.Equal(got.Suffix, before.Suffix) {
				t.Fatal("shared")
			}
			overwrite(got.Suffix)
			if again := made(a, b); !sameInfo(again, before) {
				t.Fatalf("%v, not %v", again, before)
			}
		}
	}
	row := []string{"bcd", "abc"}
	overwrite(Grams(row).Grams)
	i := Info{Known: true, Exact: row, Match: query.Grams("xyz")}
	overwrite(Closed(i).Grams)
	if !slices.Equal(row, []string{"bcd", "abc"}) || query.Text(i.Match) != "(78797a)" {
		t.Error(row, i)
	}
}

// overwrite overwrites texts.
func overwrite(l []string) {
	for i := range l {
		l[i] = "?"
	}
}

// What is gone through is left where a loop ends.
func TestLoopsAreLeft(t *testing.T) {
	many := 0
	for range parts("abcd") {
		many++
		break
	}
	if many != 1 {
		t.Error(many)
	}
}
