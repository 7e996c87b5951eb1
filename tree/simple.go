package tree

import "mudlark/api"

// Simple is the simple tree of a right one.
func Simple(n api.Node) (simple api.Node, e api.Errno) {
	if !Right(n) {
		return api.Node{}, api.ErrArg
	}
	defer func() {
		if thrown := recover(); thrown != nil {
			// Nothing but what is too great is thrown: a fault of the program would go on as a panic.
			simple, e = api.Node{}, thrown.(tooGreat).e
		}
	}()
	return simpleOf(n).Node, api.OK
}

// tooGreat is thrown where a simple tree has too many nodes.
type tooGreat struct{ e api.Errno }

// counted is a simple tree, and how many nodes it has.
type counted struct {
	api.Node
	size int
}

// leaf is a node without kids.
func leaf(n api.Node) counted {
	n.Kids = nil
	return counted{n, 1}
}

// over is a node over some kids, which have so many nodes.
func over(n api.Node, size int, kids ...api.Node) counted {
	if size+1 > api.MaxNodes {
		panic(tooGreat{api.ErrSize})
	}
	n.Kids = kids
	return counted{n, size + 1}
}

// copied is the same tree in memory of its own.
func (c counted) copied() counted {
	return counted{copyOf(c.Node), c.size}
}

func copyOf(n api.Node) api.Node {
	var kids []api.Node
	for _, kid := range n.Kids {
		kids = append(kids, copyOf(kid))
	}
	n.Kids = kids
	return n
}

// simpleOf is a right tree's simple tree, kids first.
func simpleOf(n api.Node) counted {
	var kids []counted
	for _, kid := range n.Kids {
		kids = append(kids, simpleOf(kid))
	}
	rule := rule{n}
	becomes := map[api.NodeKind]func(kids ...counted) counted{
		api.NodeGroup:  rule.group,
		api.NodeCat:    rule.cat,
		api.NodeAlt:    rule.alt,
		api.NodeRepeat: rule.repeat,
	}[n.Kind]
	if becomes == nil {
		return leaf(n)
	}
	return becomes(kids...)
}

// rule says what a node becomes, of its kids' simple trees.
type rule struct{ api.Node }

func (r rule) group(kids ...counted) counted {
	if kids[0].Kind == api.NodeNone {
		return kids[0]
	}
	return over(r.Node, kids[0].size, kids[0].Node)
}

func (r rule) cat(kids ...counted) counted {
	return cat(kids...)
}

func (r rule) alt(kids ...counted) counted {
	var l list
	for _, kid := range kids {
		if kid.Kind != api.NodeNone {
			l.put(kid, api.NodeAlt)
		}
	}
	return l.join(api.NodeAlt, api.NodeNone)
}

func (r rule) repeat(kids ...counted) counted {
	kid := kids[0]
	switch {
	case r.Max == 0, kid.Kind == api.NodeEmpty, kid.Kind == api.NodeNone && r.Min == 0:
		return leaf(api.Node{Kind: api.NodeEmpty})
	case kid.Kind == api.NodeNone:
		return kid
	}
	var items []counted
	for range r.Min {
		items = append(items, kid.copied())
	}
	if r.Max == -1 {
		return cat(append(items, r.perhaps(-1, kid))...)
	}
	return cat(append(items, r.rest(kid)...)...)
}

// rest is at most so many times a kid as a repeat goes beyond its least: each time within the one ahead of it.
func (r rule) rest(kid counted) []counted {
	var rest []counted
	for range r.Max - r.Min {
		rest = []counted{r.perhaps(1, cat(append([]counted{kid.copied()}, rest...)...))}
	}
	return rest
}

// perhaps is a kid at most so many times, or none.
func (r rule) perhaps(most int, kid counted) counted {
	return over(api.Node{Kind: api.NodeRepeat, Max: most, Lazy: r.Lazy}, kid.size, kid.Node)
}

// cat is trees one behind the other.
func cat(items ...counted) counted {
	var l list
	for _, item := range items {
		switch item.Kind {
		case api.NodeNone:
			return item
		case api.NodeEmpty:
			continue
		}
		l.put(item, api.NodeCat)
	}
	return l.join(api.NodeCat, api.NodeEmpty)
}

// list is kids, and how many nodes they have.
type list struct {
	kids []api.Node
	size int
}

// put puts a tree into the list; in the place of one of this kind its kids.
func (l *list) put(c counted, kind api.NodeKind) {
	if c.Kind == kind {
		l.kids = append(l.kids, c.Kids...)
		l.size += c.size - 1
		return
	}
	l.kids = append(l.kids, c.Node)
	l.size += c.size
}

// join is the list as a node of a kind, as it is if it has just one, or, without any, a node of the other kind.
func (l *list) join(many, none api.NodeKind) counted {
	switch len(l.kids) {
	case 0:
		return leaf(api.Node{Kind: none})
	case 1:
		return counted{l.kids[0], l.size}
	}
	return over(api.Node{Kind: many}, l.size, l.kids...)
}
