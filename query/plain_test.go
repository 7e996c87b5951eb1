package query

import (
	"cmp"
	"fmt"
	"math/rand"
	"slices"
	"strings"

	"mudlark/api"
)

// plainText is the document's words of a query's text.
func plainText(q api.Query) string {
	var l []string
	for _, g := range q.Grams {
		l = append(l, fmt.Sprintf("%x", g))
	}
	for _, sub := range q.Subs {
		l = append(l, plainText(sub))
	}
	switch q.Kind {
	case api.QueryAll:
		return "+"
	case api.QueryNone:
		return "-"
	case api.QueryAnd:
		return "(" + strings.Join(l, "&") + ")"
	case api.QueryOr:
		return "(" + strings.Join(l, "|") + ")"
	}
	return "?"
}

// rises says whether texts rise, each once.
func rises(l []string) bool {
	return slices.Equal(l, slices.Compact(slices.Sorted(slices.Values(l))))
}

// plainRight is the document's words of a right query.
func plainRight(q api.Query) bool {
	things := len(q.Grams) + len(q.Subs)
	var texts []string
	ok := true
	for _, sub := range q.Subs {
		texts = append(texts, plainText(sub))
		ok = ok && plainRight(sub)
		ok = ok && (q.Kind != api.QueryAnd || sub.Kind == api.QueryOr)
		ok = ok && (q.Kind != api.QueryOr || sub.Kind == api.QueryAnd && (len(sub.Grams) != 1 || len(sub.Subs) > 0))
	}
	for _, g := range q.Grams {
		ok = ok && len(g) == 3
	}
	ok = ok && rises(texts) && rises(q.Grams)
	switch q.Kind {
	case api.QueryAll, api.QueryNone:
		return things == 0
	case api.QueryAnd:
		return ok && things > 0 && (len(q.Grams) > 0 || len(q.Subs) > 1)
	case api.QueryOr:
		return ok && things > 1
	}
	return false
}

// plainSat is the document's words of grams that satisfy a query.
func plainSat(q api.Query, grams []string) bool {
	many, things := 0, len(q.Grams)+len(q.Subs)
	for _, g := range q.Grams {
		if len(g) == 3 && slices.Contains(grams, g) {
			many++
		}
	}
	for _, sub := range q.Subs {
		if plainSat(sub, grams) {
			many++
		}
	}
	return q.Kind == api.QueryAll || q.Kind == api.QueryAnd && many == things || q.Kind == api.QueryOr && many > 0
}

// gathered is a query of grams and Subs, rising, each once.
func gathered(kind, nothing api.QueryKind, grams []string, subs []api.Query) api.Query {
	grams = slices.Compact(slices.Sorted(slices.Values(grams)))
	subs = slices.SortedStableFunc(slices.Values(subs), func(a, b api.Query) int { return cmp.Compare(plainText(a), plainText(b)) })
	subs = slices.CompactFunc(subs, func(a, b api.Query) bool { return plainText(a) == plainText(b) })
	switch {
	case len(grams) == 0 && len(subs) == 0:
		return api.Query{Kind: nothing}
	case len(grams) == 0 && len(subs) == 1:
		return subs[0]
	case kind == api.QueryOr && len(grams) == 1 && len(subs) == 0:
		return api.Query{Kind: api.QueryAnd, Grams: grams}
	}
	return api.Query{Kind: kind, Grams: grams, Subs: subs}
}

// known says whether a query is of one of the four kinds.
func known(q api.Query) bool { return q.Kind >= 1 && q.Kind <= 4 }

// plainAnd is P16.2 as its words say it.
func plainAnd(l ...api.Query) api.Query {
	var grams []string
	var subs []api.Query
	for _, q := range l {
		if q.Kind == api.QueryNone || !known(q) {
			return api.Query{Kind: api.QueryNone}
		}
		if q.Kind == api.QueryAnd {
			grams, subs = append(grams, q.Grams...), append(subs, q.Subs...)
		}
		if q.Kind == api.QueryOr {
			subs = append(subs, q)
		}
	}
	return gathered(api.QueryAnd, api.QueryAll, grams, subs)
}

// plainOr is P16.2 as its words say it.
func plainOr(l ...api.Query) api.Query {
	var grams []string
	var subs []api.Query
	for _, q := range l {
		switch {
		case q.Kind == api.QueryAll:
			return api.Query{Kind: api.QueryAll}
		case q.Kind == api.QueryOr:
			grams, subs = append(grams, q.Grams...), append(subs, q.Subs...)
		case q.Kind == api.QueryAnd && len(q.Grams) == 1 && len(q.Subs) == 0:
			grams = append(grams, q.Grams[0])
		case q.Kind == api.QueryAnd:
			subs = append(subs, q)
		}
	}
	return gathered(api.QueryOr, api.QueryNone, grams, subs)
}

// same says whether two queries are the same.
func same(a, b api.Query) bool {
	return a.Kind == b.Kind && slices.Equal(a.Grams, b.Grams) && slices.EqualFunc(a.Subs, b.Subs, same)
}

// all are the grams of which there are queries here; ones of their bytes are signs of texts.
func all() []string {
	return []string{"aaa", "aab", "abc", "\x00\x00\xff", "()&", "\xff|+"}
}

// someGrams are some of the grams, in any order.
func someGrams(r *rand.Rand) []string {
	l := all()
	r.Shuffle(len(l), func(i, j int) { l[i], l[j] = l[j], l[i] })
	return l[:r.Intn(len(l)+1)]
}

// someRight is a right query of chance.
func someRight(r *rand.Rand, deep int) api.Query {
	if deep == 0 || r.Intn(5) == 0 {
		if r.Intn(12) == 0 {
			return api.Query{Kind: api.QueryKind(1 + r.Intn(2))}
		}
		return api.Query{Kind: api.QueryAnd, Grams: all()[r.Intn(2) : 2+r.Intn(2)]}
	}
	var l []api.Query
	for range 1 + r.Intn(3) {
		l = append(l, someRight(r, deep-1), Grams(someGrams(r)[:1:1]...))
	}
	if r.Intn(2) == 0 {
		return plainAnd(l...)
	}
	return plainOr(l...)
}

// some is a query of chance, mostly not right.
func some(r *rand.Rand, deep int) api.Query {
	q := api.Query{Kind: api.QueryKind(1 + r.Intn(4))}
	if r.Intn(12) == 0 {
		q.Kind = api.QueryKind(r.Intn(9) - 2)
	}
	if r.Intn(10) > 0 && q.Kind < 3 {
		return q
	}
	q.Grams = someGrams(r)
	if r.Intn(2) == 0 {
		slices.Sort(q.Grams)
	}
	if r.Intn(12) == 0 {
		q.Grams = append(q.Grams, []string{"", "a", "aaaa", "aaa", "zzz", "zzz0"}[r.Intn(6)])
	}
	if deep > 0 {
		for range r.Intn(3) {
			q.Subs = append(q.Subs, some(r, deep-1))
		}
	}
	return q
}

// spoilt is a query in which something is another thing.
func spoilt(r *rand.Rand, q api.Query) api.Query {
	q = copyOf(q)
	at := &q
	for len(at.Subs) > 0 && r.Intn(3) > 0 {
		at = &at.Subs[r.Intn(len(at.Subs))]
	}
	switch r.Intn(6) {
	case 0:
		at.Kind = api.QueryKind(r.Intn(7) - 1)
	case 1:
		at.Grams = append(at.Grams, all()[r.Intn(6)])
	case 2:
		at.Grams = at.Grams[:r.Intn(len(at.Grams)+1)]
	case 3:
		at.Subs = append(at.Subs, someRight(r, 1))
	case 4:
		at.Subs = at.Subs[:r.Intn(len(at.Subs)+1)]
	case 5:
		slices.Reverse(at.Grams)
		slices.Reverse(at.Subs)
	}
	return q
}
