package span

import (
	"slices"

	"mudlark/api"
)

// plainSpot is the document's words of the spots.
func plainSpot(k api.NodeKind, s []byte, i int) bool {
	if i < 0 || i > len(s) {
		return false
	}
	isWord := func(b byte) bool {
		return b == '_' || b >= '0' && b <= '9' || b|32 >= 'a' && b|32 <= 'z'
	}
	ahead, behind := i > 0 && isWord(s[max(i, 1)-1]), i < len(s) && isWord(append(slices.Clone(s), 0)[i])
	switch k {
	case api.NodeBegin:
		return i == 0
	case api.NodeEnd:
		return i == len(s)
	case api.NodeLineBegin:
		return slices.Contains([]int{0}, i) || s[i-1] == 10
	case api.NodeLineEnd:
		return i == len(s) || s[i] == 10
	case api.NodeWord:
		return ahead && !behind || behind && !ahead
	case api.NodeNotWord:
		return ahead && behind || !ahead && !behind
	}
	return false
}

// from is the places at which spans end that a right tree matches from one of some places on.
func from(n api.Node, s []byte, starts map[int]bool) map[int]bool {
	out := map[int]bool{}
	switch n.Kind {
	case api.NodeEmpty:
		return starts
	case api.NodeNone:
	case api.NodeSet:
		for i := range starts {
			if i < len(s) && n.Set[s[i]/64]>>(s[i]%64)%2 == 1 {
				out[i+1] = true
			}
		}
	case api.NodeCat:
		for _, kid := range n.Kids {
			starts = from(kid, s, starts)
		}
		return starts
	case api.NodeAlt, api.NodeGroup:
		for _, kid := range n.Kids {
			for j := range from(kid, s, starts) {
				out[j] = true
			}
		}
	case api.NodeRepeat:
		// Times that take nothing may be left out, beyond the least.
		last := n.Max
		if last == -1 {
			last = n.Min + len(s)
		}
		for many := 0; many <= last && len(starts) > 0; many++ {
			if many >= n.Min {
				for j := range starts {
					out[j] = true
				}
			}
			starts = from(n.Kids[0], s, starts)
		}
	default:
		for i := range starts {
			if plainSpot(n.Kind, s, i) {
				out[i] = true
			}
		}
	}
	return out
}

// plainSpans is all spans, by i, then by j.
func plainSpans(n api.Node, s []byte) [][2]int {
	var out [][2]int
	for i := range len(s) + 1 {
		ends := from(n, s, map[int]bool{i: true})
		for j := i; j <= len(s); j++ {
			if ends[j] {
				out = append(out, [2]int{i, j})
			}
		}
	}
	return out
}
