package tree

import (
	"math/rand"
	"slices"

	"mudlark/api"
)

const empty, none = api.NodeEmpty, api.NodeNone

// leaves are the kinds that have nothing.
func leaves() []api.NodeKind {
	return []api.NodeKind{1, 2, 8, 9, 10, 11, 12, 13}
}

// plainNode is the document's words of a node that has just what its kind has.
func plainNode(n api.Node) bool {
	noSet, noRepeat, noGroup := n.Set == api.Set{}, n.Min == 0 && n.Max == 0 && !n.Lazy, n.Group == 0
	kids := len(n.Kids)
	switch {
	case slices.Contains(leaves(), n.Kind):
		return kids == 0 && noSet && noRepeat && noGroup
	case n.Kind == api.NodeSet:
		return kids == 0 && !noSet && noRepeat && noGroup
	case n.Kind == api.NodeCat || n.Kind == api.NodeAlt:
		return kids > 1 && noSet && noRepeat && noGroup
	case n.Kind == api.NodeRepeat:
		most := n.Max == -1 || n.Max >= n.Min && n.Max <= 100
		return kids == 1 && noSet && noGroup && n.Min >= 0 && n.Min <= 100 && most
	case n.Kind == api.NodeGroup:
		return kids == 1 && noSet && noRepeat && n.Group >= 1 && n.Group <= 20
	}
	return false
}

// plainRight says whether all nodes are so, and not too many.
func plainRight(n api.Node) bool {
	var all func(n api.Node) bool
	all = func(n api.Node) bool {
		return plainNode(n) && !slices.ContainsFunc(n.Kids, func(kid api.Node) bool { return !all(kid) })
	}
	return all(n) && plainSize(n) <= 2000
}

func plainSize(n api.Node) int {
	size := 1
	for _, kid := range n.Kids {
		size += plainSize(kid)
	}
	return size
}

func plainDeep(n api.Node) int {
	deepest := 0
	for _, kid := range n.Kids {
		deepest = max(deepest, plainDeep(kid))
	}
	return deepest + 1
}

func plainGroups(n api.Node) int {
	greatest := n.Group
	for _, kid := range n.Kids {
		greatest = max(greatest, plainGroups(kid))
	}
	return greatest
}

// row is the kids of a row but those of one kind, those of a node of another kind in its place: as a node, if there is not just one.
func row(kids []api.Node, without, kind api.NodeKind) api.Node {
	var out []api.Node
	for _, kid := range kids {
		switch kid.Kind {
		case without:
		case kind:
			out = append(out, kid.Kids...)
		default:
			out = append(out, kid)
		}
	}
	switch len(out) {
	case 0:
		return api.Node{Kind: without}
	case 1:
		return out[0]
	}
	return api.Node{Kind: kind, Kids: out}
}

// behind is nodes one behind the other.
func behind(kids ...api.Node) api.Node {
	if slices.ContainsFunc(kids, func(kid api.Node) bool { return kid.Kind == none }) {
		return api.Node{Kind: none}
	}
	return row(kids, empty, api.NodeCat)
}

// theRest is the rest of so many of k.
func theRest(many int, k api.Node, lazy bool) []api.Node {
	if many == 0 {
		return nil
	}
	kid := behind(append([]api.Node{k}, theRest(many-1, k, lazy)...)...)
	return []api.Node{{Kind: api.NodeRepeat, Max: 1, Lazy: lazy, Kids: []api.Node{kid}}}
}

// plainRepeat is the table's row of NodeRepeat.
func plainRepeat(n, k api.Node) api.Node {
	if n.Max == 0 || k.Kind == empty || k.Kind == none && n.Min == 0 {
		return api.Node{Kind: empty}
	}
	if k.Kind == none {
		return api.Node{Kind: none}
	}
	var items []api.Node
	for range n.Min {
		items = append(items, k)
	}
	if n.Max == -1 {
		items = append(items, api.Node{Kind: api.NodeRepeat, Max: -1, Lazy: n.Lazy, Kids: []api.Node{k}})
	} else {
		items = append(items, theRest(n.Max-n.Min, k, n.Lazy)...)
	}
	return behind(items...)
}

// plainSimple is the document's words of the simple tree; not ok, if it, or one within, is too great.
func plainSimple(n api.Node) (out api.Node, ok bool) {
	var kids []api.Node
	for _, kid := range n.Kids {
		simple, ok := plainSimple(kid)
		if !ok {
			return out, false
		}
		kids = append(kids, simple)
	}
	switch n.Kind {
	case api.NodeGroup:
		out = api.Node{Kind: api.NodeGroup, Group: n.Group, Kids: kids}
		if kids[0].Kind == none {
			out = kids[0]
		}
	case api.NodeCat:
		out = behind(kids...)
	case api.NodeAlt:
		out = row(kids, none, api.NodeAlt)
	case api.NodeRepeat:
		out = plainRepeat(n, kids[0])
	default:
		out = n
	}
	return out, plainSize(out) <= 2000
}

// same says whether two trees are the same.
func same(a, b api.Node) bool {
	return a.Kind == b.Kind && a.Set == b.Set && a.Min == b.Min && a.Max == b.Max && a.Lazy == b.Lazy && a.Group == b.Group && slices.EqualFunc(a.Kids, b.Kids, same)
}

// spoilt is a tree in which something of one node is another thing.
func spoilt(r *rand.Rand, n api.Node) api.Node {
	if len(n.Kids) > 0 && r.Intn(3) > 0 {
		kids := slices.Clone(n.Kids)
		at := r.Intn(len(kids))
		kids[at] = spoilt(r, kids[at])
		n.Kids = kids
		return n
	}
	odd := []int{-1 << 63, -100, -2, -1, 0, 1, 2, 3, 20, 21, 99, 100, 101, 1<<63 - 1}
	switch number := odd[r.Intn(len(odd))]; r.Intn(7) {
	case 0:
		n.Kind = api.NodeKind(r.Intn(17) - 1)
	case 1:
		n.Min = number
	case 2:
		n.Max = number
	case 3:
		n.Lazy = !n.Lazy
	case 4:
		n.Group = number
	case 5:
		n.Set = api.Set{}
		n.Set[r.Intn(4)] = uint64(r.Intn(2)) << r.Intn(64)
	case 6:
		n.Kids = slices.Clone(n.Kids[:r.Intn(len(n.Kids)+1)])
		if r.Intn(2) == 0 {
			n.Kids = append(n.Kids, api.Node{Kind: empty})
		}
	}
	return n
}
