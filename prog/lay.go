package prog

import (
	"slices"

	"mudlark/api"
)

// tooGreat is thrown where a program has too many instructions.
type tooGreat struct{ e api.Errno }

// laid is what was laid, the last instruction first: its numbers are counted from the program's end.
type laid struct{ insts []api.Inst }

// lay lays instructions, each ahead of the one before it, and tells the last one's number.
func (l *laid) lay(insts ...api.Inst) int {
	l.insts = append(l.insts, insts...)
	if len(l.insts) > api.MaxInsts {
		panic(tooGreat{api.ErrSize})
	}
	return len(l.insts) - 1
}

// program is what was laid, numbered from its begin on.
func (l *laid) program() []api.Inst {
	p, last := slices.Clone(l.insts), len(l.insts)-1
	for i, in := range p {
		switch in.Kind {
		case api.InstMatch, api.InstFail:
			continue
		case api.InstSplit:
			p[i].Other = last - in.Other
		}
		p[i].Next = last - in.Next
	}
	slices.Reverse(p)
	return p
}

// layer lays trees ahead of what was laid.
type layer struct{ laid }

// node lays a simple tree ahead of an instruction, and tells its begin.
func (l *layer) node(n api.Node, out int) int {
	lays := map[api.NodeKind]func(n api.Node, out int) int{
		api.NodeEmpty:  l.empty,
		api.NodeNone:   l.never,
		api.NodeSet:    l.set,
		api.NodeCat:    l.cat,
		api.NodeAlt:    l.alt,
		api.NodeGroup:  l.group,
		api.NodeRepeat: l.repeat,
	}[n.Kind]
	if lays == nil {
		lays = l.spot
	}
	return lays(n, out)
}

func (l *layer) empty(_ api.Node, out int) int {
	return out
}

func (l *layer) never(api.Node, int) int {
	return l.lay(api.Inst{Kind: api.InstFail})
}

func (l *layer) set(n api.Node, out int) int {
	return l.lay(api.Inst{Kind: api.InstSet, Set: n.Set, Next: out})
}

func (l *layer) spot(n api.Node, out int) int {
	return l.lay(api.Inst{Kind: api.InstSpot, Spot: n.Kind, Next: out})
}

func (l *layer) cat(n api.Node, out int) int {
	for _, kid := range slices.Backward(n.Kids) {
		out = l.node(kid, out)
	}
	return out
}

func (l *layer) alt(n api.Node, out int) int {
	last := len(n.Kids) - 1
	begin := l.node(n.Kids[last], out)
	for _, kid := range slices.Backward(n.Kids[:last]) {
		begin = l.lay(split(l.node(kid, out), begin, false))
	}
	return begin
}

func (l *layer) group(n api.Node, out int) int {
	end := l.lay(save(2*n.Group+1, out))
	return l.lay(save(2*n.Group, l.node(n.Kids[0], end)))
}

func (l *layer) repeat(n api.Node, out int) int {
	if n.Max == 1 {
		return l.lay(split(l.node(n.Kids[0], out), out, n.Lazy))
	}
	// The kid comes back to the split, which is laid before it is known where the kid begins.
	at := l.lay(api.Inst{Kind: api.InstSplit})
	begin := l.node(n.Kids[0], at)
	l.insts[at] = split(begin, out, n.Lazy)
	return at
}

// split goes to one instruction, or else to another one; where it is lazy, the other way.
func split(next, other int, lazy bool) api.Inst {
	if lazy {
		next, other = other, next
	}
	return api.Inst{Kind: api.InstSplit, Next: next, Other: other}
}

// save notes the place in a slot.
func save(slot, next int) api.Inst {
	return api.Inst{Kind: api.InstSave, Slot: slot, Next: next}
}
