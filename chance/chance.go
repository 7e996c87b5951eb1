// Package chance draws texts, trees and regexes for the tests of the layers; no layer calls it. What is drawn is told by who asks: it has no source of chance.
package chance

import (
	"strings"

	"mudlark/api"
)

// Draw is a number from 0 to below n.
type Draw func(n int) int

// kinds are the bytes of texts and trees: some of words, some of none, ends of lines.
const kinds = "aaabbbck_ \n\n\xff"

// Text is at most most bytes of few kinds.
func (draw Draw) Text(most int) []byte {
	text := make([]byte, draw(most+1))
	for i := range text {
		text[i] = kinds[draw(len(kinds))]
	}
	return text
}

// Tree is a right tree; few of them get great when they are made simple.
func (draw Draw) Tree(deep int) api.Node {
	kids := 0
	n := api.Node{Kind: draw.kind(deep)}
	switch n.Kind {
	case api.NodeSet:
		for range 1 + draw(3) {
			b := kinds[draw(len(kinds))]
			n.Set[b/64] |= 1 << (b % 64)
		}
	case api.NodeCat, api.NodeAlt:
		kids = 2 + draw(3)
	case api.NodeRepeat:
		kids, n.Lazy = 1, draw(2) == 0
		n.Min, n.Max = draw.times()
	case api.NodeGroup:
		kids, n.Group = 1, 1+draw(api.MaxGroups)
	}
	for range kids {
		n.Kids = append(n.Kids, draw.Tree(deep-1))
	}
	return n
}

// kind is that of a tree that is at most so much deeper.
func (draw Draw) kind(deep int) api.NodeKind {
	leaves := []api.NodeKind{
		api.NodeSet, api.NodeSet, api.NodeSet, api.NodeSet, api.NodeSet, api.NodeSet, api.NodeSet, api.NodeSet, api.NodeEmpty, api.NodeNone,
		api.NodeBegin, api.NodeEnd, api.NodeLineBegin, api.NodeLineEnd, api.NodeWord, api.NodeNotWord,
	}
	others := []api.NodeKind{api.NodeCat, api.NodeCat, api.NodeAlt, api.NodeRepeat, api.NodeRepeat, api.NodeGroup}
	if deep <= 0 || draw(5) == 0 {
		return leaves[draw(len(leaves))]
	}
	return others[draw(len(others))]
}

// times is how many times something is repeated.
func (draw Draw) times() (low, high int) {
	low = draw(3)
	switch {
	case draw(3) == 0:
		return low, -1
	case draw(40) == 0:
		return draw(40), 40 + draw(61)
	}
	return low, low + draw(4)
}

// Regex is a regex that is a tree.
func (draw Draw) Regex(deep int) string {
	atoms := strings.Fields(`a b c k [ab] [^k] [^\d\D] [b-d] [[:lower:]] . ^ $ \b \B \A \z \w \W`)
	repeats := strings.Fields(`* *? + ? ?? {2} {1,3} {0,2}? {2,} {0}`)
	flags := strings.Fields(`(?i) (?-i) (?s) (?m) (?-sm) (?i-i)`)
	opens := strings.Fields(`( ( (?: (?: (?i: (?s-i: (?m:`)
	var out strings.Builder
	for range draw(4) {
		item := atoms[draw(len(atoms))]
		switch {
		case deep > 0 && draw(2) == 0:
			item = opens[draw(len(opens))] + draw.Regex(deep-1) + ")"
		case draw(9) == 0:
			out.WriteString(flags[draw(len(flags))])
		case draw(9) == 0:
			out.WriteString("|")
		}
		out.WriteString(item)
		if draw(2) == 0 {
			out.WriteString(repeats[draw(len(repeats))])
		}
	}
	return out.String()
}
