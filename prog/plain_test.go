package prog

import (
	"slices"

	"mudlark/api"
	"mudlark/span"
)

// cell is an instruction that knows those to which it goes by themselves.
type cell struct {
	inst        api.Inst
	next, other *cell
}

// plain is the cells of a program, as the document's words lay them: each ahead of all others.
type plain []*cell

func (p *plain) ahead(inst api.Inst, next, other *cell) *cell {
	c := &cell{inst, next, other}
	*p = slices.Insert(*p, 0, c)
	return c
}

func (p *plain) lay(n api.Node, out *cell) *cell {
	switch n.Kind {
	case api.NodeEmpty:
		return out
	case api.NodeNone:
		return p.ahead(api.Inst{Kind: api.InstFail}, nil, nil)
	case api.NodeSet:
		return p.ahead(api.Inst{Kind: api.InstSet, Set: n.Set}, out, nil)
	case api.NodeCat:
		if len(n.Kids) == 0 {
			return out
		}
		last := len(n.Kids) - 1
		end := p.lay(n.Kids[last], out)
		n.Kids = n.Kids[:last]
		return p.lay(n, end)
	case api.NodeAlt:
		l := slices.Clone(n.Kids)
		slices.Reverse(l)
		begin := p.lay(l[0], out)
		for _, kid := range l[1:] {
			kidBegin := p.lay(kid, out)
			begin = p.ahead(api.Inst{Kind: api.InstSplit}, kidBegin, begin)
		}
		return begin
	case api.NodeGroup:
		end := p.ahead(api.Inst{Kind: api.InstSave, Slot: n.Group*2 + 1}, out, nil)
		begin := p.lay(n.Kids[0], end)
		return p.ahead(api.Inst{Kind: api.InstSave, Slot: n.Group * 2}, begin, nil)
	case api.NodeRepeat:
		var at, begin *cell
		if n.Max == -1 {
			at = p.ahead(api.Inst{Kind: api.InstSplit}, nil, nil)
			begin = p.lay(n.Kids[0], at)
		} else {
			begin = p.lay(n.Kids[0], out)
			at = p.ahead(api.Inst{Kind: api.InstSplit}, nil, nil)
		}
		at.next, at.other = begin, out
		if n.Lazy {
			at.next, at.other = out, begin
		}
		return at
	}
	return p.ahead(api.Inst{Kind: api.InstSpot, Spot: n.Kind}, out, nil)
}

// plainMake is a simple tree's program, of whatever size.
func plainMake(n api.Node) []api.Inst {
	var p plain
	match := p.ahead(api.Inst{Kind: api.InstMatch}, nil, nil)
	end := p.ahead(api.Inst{Kind: api.InstSave, Slot: 1}, match, nil)
	begin := p.lay(n, end)
	p.ahead(api.Inst{Kind: api.InstSave}, begin, nil)
	numbers := map[*cell]int{nil: 0}
	for i, c := range p {
		numbers[c] = i
	}
	var out []api.Inst
	for _, c := range p {
		c.inst.Next, c.inst.Other = numbers[c.next], numbers[c.other]
		out = append(out, c.inst)
	}
	return out
}

// plainRight is the document's words of a right program.
func plainRight(p []api.Inst) bool {
	for _, in := range p {
		want := api.Inst{Kind: in.Kind}
		to := func(n int) int {
			if n < 0 || n >= len(p) {
				return n + 1 // another one
			}
			return n
		}
		switch in.Kind {
		case api.InstSet:
			if in.Set == (api.Set{}) {
				return false
			}
			want.Set, want.Next = in.Set, to(in.Next)
		case api.InstSplit:
			want.Next, want.Other = to(in.Next), to(in.Other)
		case api.InstSave:
			want.Slot, want.Next = min(max(in.Slot, 0), 41), to(in.Next)
		case api.InstSpot:
			want.Spot, want.Next = min(max(in.Spot, 8), 13), to(in.Next)
		case api.InstMatch, api.InstFail:
		default:
			return false
		}
		if in != want {
			return false
		}
	}
	return len(p) > 0 && len(p) <= 4000
}

// plainSlots is the document's words of how many slots there are.
func plainSlots(p []api.Inst) int {
	many := 2
	for _, in := range p {
		if in.Slot > 1 {
			many = max(many, 2*(in.Slot/2)+2)
		}
	}
	return many
}

// comesTo is the places with which a program comes to its match from a place.
func comesTo(p []api.Inst, s []byte, i int) map[int]bool {
	type way struct{ at, place int }
	out, seen := map[int]bool{}, map[way]bool{}
	ways := []way{{0, i}}
	for len(ways) > 0 {
		w := ways[0]
		ways = ways[1:]
		if seen[w] {
			continue
		}
		seen[w] = true
		in := p[w.at]
		switch in.Kind {
		case api.InstMatch:
			out[w.place] = true
		case api.InstSet:
			if w.place < len(s) && in.Set[s[w.place]/64]>>(s[w.place]%64)%2 == 1 {
				ways = append(ways, way{in.Next, w.place + 1})
			}
		case api.InstSpot:
			if span.Spot(in.Spot, s, w.place) {
				ways = append(ways, way{in.Next, w.place})
			}
		case api.InstSplit:
			ways = append(ways, way{in.Next, w.place}, way{in.Other, w.place})
		case api.InstSave:
			ways = append(ways, way{in.Next, w.place})
		}
	}
	return out
}
