package know

import (
	"math/rand"
	"slices"
	"sort"

	"mudlark/api"
	"mudlark/query"
)

// texts is a row of texts as a map.
type texts map[string]int

// textsOf is some texts as a map.
func textsOf(l ...string) texts {
	out := texts{}
	for _, text := range l {
		out[text] = 1
	}
	return out
}

// rising is a row's texts, rising.
func (t texts) rising() []string {
	var out []string
	for text := range t {
		out = append(out, text)
	}
	sort.Strings(out)
	return out
}

// plainInfo is what is known, in the document's words.
type plainInfo struct {
	known                 bool
	exact, prefix, suffix texts
	match                 api.Query
}

// plainGrams is the document's words of the grams of a row.
func plainGrams(t texts) api.Query {
	var l []api.Query
	for _, text := range t.rising() {
		if len(text) < 3 {
			return api.Query{Kind: api.QueryAll}
		}
		var grams []string
		for i := 2; i < len(text); i++ {
			grams = append(grams, string([]byte{text[i-2], text[i-1], text[i]}))
		}
		l = append(l, query.Grams(grams...))
	}
	return query.Or(l...)
}

func plainCross(a, b texts) texts {
	out := texts{}
	for x := range a {
		for y := range b {
			out[x+y] = 1
		}
	}
	return out
}

func plainUnion(a, b texts) texts {
	return textsOf(append(a.rising(), b.rising()...)...)
}

func plainLoosened(i plainInfo) plainInfo {
	if !i.known {
		return i
	}
	return plainInfo{prefix: i.exact, suffix: i.exact, match: query.And(i.match, plainGrams(i.exact))}
}

// plainCut is a row of which each text is cut by a function.
func plainCut(t texts, cut func(text string) string) texts {
	out := texts{}
	for text := range t {
		out[cut(text)] = 1
	}
	return out
}

// plainShort is a row that is cut as the document says, by functions to two and to one byte.
func plainShort(t texts, two, one func(string) string) texts {
	t = plainCut(t, two)
	if len(t) > 8 {
		t = plainCut(t, one)
	}
	if len(t) > 8 || t[""] == 1 {
		return textsOf("")
	}
	return t
}

func plainSettled(i plainInfo) plainInfo {
	if i.known {
		stays := len(i.exact) <= 8
		for text := range i.exact {
			stays = stays && len(text) <= 40
		}
		if stays {
			return i
		}
	}
	i = plainLoosened(i)
	i.match = query.And(i.match, plainGrams(i.prefix), plainGrams(i.suffix))
	head := func(n int) func(string) string { return func(s string) string { return s[:min(n, len(s))] } }
	tail := func(n int) func(string) string { return func(s string) string { return s[len(s)-min(n, len(s)):] } }
	i.prefix, i.suffix = plainShort(i.prefix, head(2), head(1)), plainShort(i.suffix, tail(2), tail(1))
	return i
}

func plainBehind(a, b plainInfo) plainInfo {
	if a.known && b.known {
		return plainSettled(plainInfo{known: true, exact: plainCross(a.exact, b.exact), match: query.And(a.match, b.match)})
	}
	out := plainInfo{prefix: a.prefix, suffix: b.suffix}
	l := []api.Query{a.match, b.match}
	if a.known {
		out.prefix = plainCross(a.exact, b.prefix)
	}
	if b.known {
		out.suffix = plainCross(a.suffix, b.exact)
	}
	if !a.known && !b.known {
		l = append(l, plainGrams(plainCross(a.suffix, b.prefix)))
	}
	out.match = query.And(l...)
	return plainSettled(out)
}

func plainOr(a, b plainInfo) plainInfo {
	if a.known && b.known {
		return plainSettled(plainInfo{known: true, exact: plainUnion(a.exact, b.exact), match: query.Or(a.match, b.match)})
	}
	a, b = plainLoosened(a), plainLoosened(b)
	return plainSettled(plainInfo{prefix: plainUnion(a.prefix, b.prefix), suffix: plainUnion(a.suffix, b.suffix), match: query.Or(a.match, b.match)})
}

func plainExactly(l ...string) plainInfo {
	return plainInfo{known: true, exact: textsOf(l...), match: api.Query{Kind: api.QueryAll}}
}

// plainOf is the table of what is known of a node.
func plainOf(n api.Node) plainInfo {
	kid := func(i int) plainInfo {
		if i >= len(n.Kids) {
			return plainOf(api.Node{Kind: api.NodeNone})
		}
		return plainOf(n.Kids[i])
	}
	nothing := plainInfo{prefix: textsOf(""), suffix: textsOf(""), match: api.Query{Kind: api.QueryAll}}
	out := plainExactly()
	switch n.Kind {
	case api.NodeEmpty, api.NodeBegin, api.NodeEnd, api.NodeLineBegin, api.NodeLineEnd, api.NodeWord, api.NodeNotWord:
		out = plainExactly("")
	case api.NodeSet:
		for b := range 256 {
			if n.Set[b/64]>>(b%64)&1 == 1 {
				out.exact[string([]byte{byte(b)})] = 1
			}
		}
		if len(out.exact) > 8 {
			out = nothing
		}
	case api.NodeGroup:
		out = kid(0)
	case api.NodeCat:
		out = plainExactly("")
		for i := range n.Kids {
			if i == 0 {
				out = kid(0)
			} else {
				out = plainBehind(out, kid(i))
			}
		}
	case api.NodeAlt:
		for i := range n.Kids {
			if i == 0 {
				out = kid(0)
			} else {
				out = plainOr(out, kid(i))
			}
		}
	case api.NodeRepeat:
		switch {
		case n.Max == 0:
			out = plainExactly("")
		case n.Min == 1 && n.Max == 1:
			out = kid(0)
		case n.Min < 1 && n.Max == 1:
			out = plainOr(plainExactly(""), kid(0))
		case n.Min < 1:
			out = nothing
		default:
			out = plainLoosened(kid(0))
		}
	}
	return plainSettled(out)
}

// plainClosed is the document's words of P17.2.
func plainClosed(i plainInfo) api.Query {
	i = plainLoosened(i)
	return query.And(i.match, plainGrams(i.prefix), plainGrams(i.suffix))
}

// plain is an info in the document's words.
func plain(i Info) plainInfo {
	if i.Known {
		return plainInfo{known: true, exact: textsOf(i.Exact...), match: i.Match}
	}
	return plainInfo{prefix: textsOf(i.Prefix...), suffix: textsOf(i.Suffix...), match: i.Match}
}

// alike says whether an info is what a plain one is, its rows rising.
func alike(i Info, want plainInfo) bool {
	return i.Known == want.known && slices.Equal(i.Exact, want.exact.rising()) && slices.Equal(i.Prefix, want.prefix.rising()) && slices.Equal(i.Suffix, want.suffix.rising()) && sameQuery(i.Match, want.match)
}

// sameQuery says whether two queries are the same.
func sameQuery(a, b api.Query) bool {
	return a.Kind == b.Kind && slices.Equal(a.Grams, b.Grams) && slices.EqualFunc(a.Subs, b.Subs, sameQuery)
}

// sameInfo says whether two infos are.
func sameInfo(a, b Info) bool {
	return a.Known == b.Known && slices.Equal(a.Exact, b.Exact) && slices.Equal(a.Prefix, b.Prefix) && slices.Equal(a.Suffix, b.Suffix) && sameQuery(a.Match, b.Match)
}

// someTexts is texts of chance, in any order, some of them more than once.
func someTexts(r *rand.Rand) []string {
	var out []string
	longest := []int{1, 2, 4, 45}[r.Intn(4)]
	for range r.Intn([]int{3, 12}[r.Intn(2)]) {
		b := make([]byte, r.Intn(longest+1))
		for i := range b {
			b[i] = "abcdefghijkl\xff"[r.Intn(13)]
		}
		out = append(out, string(b))
	}
	return out
}

// someQuery is a query of chance.
func someQuery(r *rand.Rand) api.Query {
	switch r.Intn(6) {
	case 0:
		return api.Query{Kind: api.QueryKind(r.Intn(7) - 1), Grams: []string{"b", "abc"}[:r.Intn(3)]}
	case 1:
		return query.Or(query.Grams("abc"), query.Grams("bcd", "cde"))
	case 2:
		return query.And(query.Or(query.Grams("abc"), query.Grams("aaa")), query.Grams("xyz"))
	}
	return api.Query{Kind: api.QueryAll}
}

// someInfo is an info of chance, perhaps with rows that it should not have.
func someInfo(r *rand.Rand) Info {
	i := Info{Known: r.Intn(2) == 0, Match: someQuery(r)}
	if i.Known || r.Intn(8) == 0 {
		i.Exact = someTexts(r)
	}
	if !i.Known || r.Intn(8) == 0 {
		i.Prefix, i.Suffix = someTexts(r), someTexts(r)
	}
	return i
}
