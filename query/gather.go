package query

import (
	"maps"
	"slices"

	"mudlark/api"
)

// gathering is grams, and Subs by their texts, each once.
type gathering struct {
	grams map[string]struct{}
	subs  map[string]api.Query
}

func newGathering() gathering {
	return gathering{make(map[string]struct{}), make(map[string]api.Query)}
}

// putGrams puts grams into the gathering.
func (g gathering) putGrams(grams ...string) {
	for _, gram := range grams {
		g.grams[gram] = struct{}{}
	}
}

// putSubs puts Subs into the gathering: of those of one text the first one stays.
func (g gathering) putSubs(subs ...api.Query) {
	for _, sub := range subs {
		text := Text(sub)
		if _, known := g.subs[text]; !known {
			g.subs[text] = copyOf(sub)
		}
	}
}

// allGrams are the grams, rising.
func (g gathering) allGrams() []string {
	return slices.Sorted(maps.Keys(g.grams))
}

// allSubs are the Subs, by their texts rising.
func (g gathering) allSubs() []api.Query {
	var out []api.Query
	for _, text := range slices.Sorted(maps.Keys(g.subs)) {
		out = append(out, g.subs[text])
	}
	return out
}

// copyOf is a query in memory of its own.
func copyOf(q api.Query) api.Query {
	var subs []api.Query
	for _, sub := range q.Subs {
		subs = append(subs, copyOf(sub))
	}
	return api.Query{Kind: q.Kind, Grams: slices.Clone(q.Grams), Subs: subs}
}

// gatherer gathers things for a query of a kind, which is one of another kind where there is nothing.
type gatherer struct {
	gathering
	kind, nothing api.QueryKind
}

// query is the query of what was gathered.
func (g gatherer) query() api.Query {
	grams, subs := g.allGrams(), g.allSubs()
	switch len(grams) + len(subs) {
	case 0:
		return api.Query{Kind: g.nothing}
	case 1:
		if len(subs) == 1 {
			return subs[0]
		}
		return api.Query{Kind: api.QueryAnd, Grams: grams}
	}
	return api.Query{Kind: g.kind, Grams: grams, Subs: subs}
}
