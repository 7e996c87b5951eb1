package syntax

import "mudlark/api"

// cat is nodes one behind the other.
func cat(items ...api.Node) api.Node {
	if len(items) == 0 {
		return api.Node{Kind: api.NodeEmpty}
	}
	return joined(api.NodeCat, items...)
}

// alt is one of some nodes.
func alt(alternatives ...api.Node) api.Node {
	return joined(api.NodeAlt, alternatives...)
}

// joined is the only node of a list, or, of more, one of a kind that has them all.
func joined(kind api.NodeKind, kids ...api.Node) api.Node {
	if len(kids) == 1 {
		return kids[0]
	}
	return api.Node{Kind: kind, Kids: kids}
}

// measure is how many nodes a tree has, and how deep it is.
func measure(n api.Node) (size, deep int) {
	for _, kid := range n.Kids {
		more, below := measure(kid)
		size += more
		deep = max(deep, below)
	}
	return size + 1, deep + 1
}
