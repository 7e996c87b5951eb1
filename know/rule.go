package know

import (
	"math/bits"

	"mudlark/api"
)

// rule says what is known of a node, of what is known of its kids.
type rule struct{ api.Node }

// rules are the rules of kinds; of any other one it is none.
func rules() map[api.NodeKind]func(r rule, kids ...Info) Info {
	return map[api.NodeKind]func(rule, ...Info) Info{
		api.NodeEmpty:     rule.empty,
		api.NodeNone:      rule.none,
		api.NodeSet:       rule.set,
		api.NodeCat:       rule.cat,
		api.NodeAlt:       rule.alt,
		api.NodeRepeat:    rule.repeat,
		api.NodeGroup:     rule.kid,
		api.NodeBegin:     rule.empty,
		api.NodeEnd:       rule.empty,
		api.NodeLineBegin: rule.empty,
		api.NodeLineEnd:   rule.empty,
		api.NodeWord:      rule.empty,
		api.NodeNotWord:   rule.empty,
	}
}

func (r rule) empty(kids ...Info) Info { return exactly("") }

func (r rule) none(kids ...Info) Info { return exactly() }

func (r rule) set(kids ...Info) Info {
	var texts []string
	for i, word := range r.Set {
		for ; word != 0; word &= word - 1 {
			if len(texts) == api.MaxExact {
				return anything()
			}
			texts = append(texts, string([]byte{byte(64*i + bits.TrailingZeros64(word))}))
		}
	}
	return exactly(texts...)
}

// kid is the first kid's; one that is not there is none.
func (r rule) kid(kids ...Info) Info {
	if len(kids) == 0 {
		return exactly()
	}
	return kids[0]
}

func (r rule) cat(kids ...Info) Info { return joined(Behind, exactly(""), kids...) }

func (r rule) alt(kids ...Info) Info { return joined(Or, exactly(), kids...) }

// joined is the first one, and, one by one, the next one joined to it; of none another one.
func joined(join func(a, b Info) Info, none Info, kids ...Info) Info {
	if len(kids) == 0 {
		return none
	}
	out := kids[0]
	for _, next := range kids[1:] {
		out = join(out, next)
	}
	return out
}

func (r rule) repeat(kids ...Info) Info {
	switch kid := r.kid(kids...); {
	case r.Max == 0:
		return exactly("")
	case r.Min == 1 && r.Max == 1:
		return kid
	case r.Min < 1 && r.Max == 1:
		return Or(exactly(""), kid)
	case r.Min < 1:
		return anything()
	default:
		return loosened(kid)
	}
}
