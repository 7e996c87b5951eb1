package syntax

import (
	"math/rand"
	"slices"
	"strings"

	"mudlark/api"
	"mudlark/lex"
)

// The document's words of a regex's tree, of whole lists of words: what is wrong by one look for each row of the table, the tree by splitting.

// opens says whether a word begins a group.
func opens(w lex.Word) bool { return w.Kind == lex.WordOpen || w.Kind == lex.WordPlain }

// plainMisplaced is the first ) without its (, or repeat behind what can't be repeated.
func plainMisplaced(words []lex.Word) (at int, ok bool) {
	depth := 0
	for i, w := range words {
		switch {
		case opens(w):
			depth++
		case w.Kind == lex.WordClose && depth == 0:
			return w.At, true
		case w.Kind == lex.WordClose:
			depth--
		case w.Kind == lex.WordRepeat && i == 0:
			return w.At, true
		case w.Kind == lex.WordRepeat:
			if last := words[i-1]; opens(last) || last.Kind == lex.WordFlags || last.Kind == lex.WordBar || last.Kind == lex.WordRepeat {
				return w.At, true
			}
		}
	}
	return 0, false
}

// plainOpen is the last ( without its ).
func plainOpen(words []lex.Word) (at int, ok bool) {
	depth := 0
	for _, w := range slices.Backward(words) {
		switch {
		case w.Kind == lex.WordClose:
			depth++
		case opens(w) && depth == 0:
			return w.At, true
		case opens(w):
			depth--
		}
	}
	return 0, false
}

// closer is where the group ends that words[at] begins.
func closer(words []lex.Word, at int) int {
	depth := 0
	for i := at; ; i++ {
		switch {
		case opens(words[i]):
			depth++
		case words[i].Kind == lex.WordClose:
			depth--
		}
		if depth == 0 {
			return i
		}
	}
}

// numbered is the number of each ( by its place.
func numbered(words []lex.Word) map[int]int {
	out := map[int]int{}
	for _, w := range words {
		if w.Kind == lex.WordOpen {
			out[w.At] = len(out) + 1
		}
	}
	return out
}

// change is flags with those of On on, and then those of Off off.
func change(f api.Flags, w lex.Word) api.Flags {
	for _, l := range []struct {
		flag    *bool
		on, off bool
	}{{&f.Fold, w.On.Fold, w.Off.Fold}, {&f.Lines, w.On.Lines, w.Off.Lines}, {&f.All, w.On.All, w.Off.All}} {
		if l.on {
			*l.flag = true
		}
		if l.off {
			*l.flag = false
		}
	}
	return f
}

// plainSet is the node of a set's word.
func plainSet(w lex.Word, f api.Flags) api.Node {
	var has [256]bool
	for b := range has {
		has[b] = w.Set[b/64]>>(b%64)%2 == 1
	}
	if f.Fold {
		for b := 'a'; b <= 'z'; b++ {
			both := has[b] || has[b-32]
			has[b], has[b-32] = both, both
		}
	}
	n := api.Node{Kind: api.NodeNone}
	for b := range has {
		if has[b] != w.Not {
			n.Kind = api.NodeSet
			n.Set[b/64] |= 1 << (b % 64)
		}
	}
	return n
}

// plainTree is the tree of words that are right, in which groups have these numbers.
func plainTree(words []lex.Word, f api.Flags, numbers map[int]int) api.Node {
	var alternatives []api.Node
	var items []api.Node
	item := func() {
		n := api.Node{Kind: api.NodeCat, Kids: items}
		if len(items) == 0 {
			n.Kind = api.NodeEmpty
		} else if len(items) == 1 {
			n = items[0]
		}
		alternatives, items = append(alternatives, n), nil
	}
	for i := 0; i < len(words); i++ {
		w := words[i]
		switch w.Kind {
		case lex.WordBar:
			item()
		case lex.WordFlags:
			f = change(f, w)
		case lex.WordRepeat:
			items[len(items)-1] = api.Node{Kind: api.NodeRepeat, Min: w.Min, Max: w.Max, Lazy: w.Lazy, Kids: []api.Node{items[len(items)-1]}}
		case lex.WordOpen, lex.WordPlain:
			end := closer(words, i)
			n := plainTree(words[i+1:end], change(f, w), numbers)
			if w.Kind == lex.WordOpen {
				n = api.Node{Kind: api.NodeGroup, Group: numbers[w.At], Kids: []api.Node{n}}
			}
			items, i = append(items, n), end
		case lex.WordSet:
			items = append(items, plainSet(w, f))
		case lex.WordAny:
			items = append(items, plainSet(lex.Word{Set: api.Set{1 << 10}, Not: true}, api.Flags{}))
			if f.All {
				items[len(items)-1].Set[0]++
				items[len(items)-1].Set = api.Set{1<<64 - 1, 1<<64 - 1, 1<<64 - 1, 1<<64 - 1}
			}
		default:
			kinds := map[lex.Kind]map[bool]api.NodeKind{
				lex.WordHat:    {false: api.NodeBegin, true: api.NodeLineBegin},
				lex.WordDollar: {false: api.NodeEnd, true: api.NodeLineEnd},
				lex.WordSpot:   {false: w.Spot, true: w.Spot},
			}
			items = append(items, api.Node{Kind: kinds[w.Kind][f.Lines]})
		}
	}
	item()
	if len(alternatives) == 1 {
		return alternatives[0]
	}
	return api.Node{Kind: api.NodeAlt, Kids: alternatives}
}

// nodes is a tree's nodes, each with how deep it lies.
func nodes(n api.Node, depth int, tell func(n api.Node, depth int)) {
	tell(n, depth)
	for _, kid := range n.Kids {
		nodes(kid, depth+1, tell)
	}
}

// plainParse is P10.1 as its words say it.
func plainParse(regex string, f api.Flags) (n api.Node, groups, at int, e api.Errno) {
	words, at, e := lex.Words(regex)
	if e != 0 {
		return n, 0, at, e
	}
	if at, ok := plainMisplaced(words); ok {
		return n, 0, at, api.ErrSyntax
	}
	if at, ok := plainOpen(words); ok {
		return n, 0, at, api.ErrSyntax
	}
	numbers := numbered(words)
	tree := plainTree(words, f, numbers)
	size, deep := 0, 0
	nodes(tree, 1, func(_ api.Node, depth int) { size, deep = size+1, max(deep, depth) })
	switch {
	case len(numbers) > 20 || size > 2000:
		return n, 0, 0, api.ErrSize
	case deep > 50:
		return n, 0, 0, api.ErrDeep
	}
	return tree, len(numbers), 0, 0
}

// same says whether two trees are the same, lists without elements and nil ones being one.
func same(a, b api.Node) bool {
	return a.Kind == b.Kind && a.Set == b.Set && a.Min == b.Min && a.Max == b.Max && a.Lazy == b.Lazy && a.Group == b.Group && slices.EqualFunc(a.Kids, b.Kids, same)
}

// someFlags is flags of chance.
func someFlags(r *rand.Rand) api.Flags {
	return api.Flags{Fold: r.Intn(2) == 0, Lines: r.Intn(2) == 0, All: r.Intn(2) == 0}
}

// someRegex is some words of chance, right or wrong ones.
func someRegex(r *rand.Rand, most int) string {
	pieces := strings.Fields(`a k . ^ \b ( ( (?: (?i: ) ) ) | * {2} (?i) (?-i) [^k] \c {7,1}`)
	var out strings.Builder
	for range r.Intn(most + 1) {
		out.WriteString(pieces[r.Intn(len(pieces)-r.Intn(3))])
	}
	return out.String()
}
