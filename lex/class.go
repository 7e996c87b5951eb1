package lex

import (
	"iter"
	"strings"

	"mudlark/api"
	"mudlark/set"
)

// rows are rows of bytes, each from its first one to its last one.
type rows [][2]byte

// set is the bytes of all rows.
func (l rows) set() api.Set {
	var out api.Set
	for _, row := range l {
		out = set.Union(out, set.Range(row[0], row[1]))
	}
	return out
}

// names is what the NAMEs of a class have.
func names() map[string]rows {
	return map[string]rows{
		"alnum":  {{'0', '9'}, {'A', 'Z'}, {'a', 'z'}},
		"alpha":  {{'A', 'Z'}, {'a', 'z'}},
		"ascii":  {{0, 127}},
		"blank":  {{9, 9}, {32, 32}},
		"cntrl":  {{0, 31}, {127, 127}},
		"digit":  {{'0', '9'}},
		"graph":  {{33, 126}},
		"lower":  {{'a', 'z'}},
		"print":  {{32, 126}},
		"punct":  {{33, '0' - 1}, {'9' + 1, 'A' - 1}, {'Z' + 1, 'a' - 1}, {'z' + 1, 126}},
		"space":  {{9, 13}, {32, 32}},
		"upper":  {{'A', 'Z'}},
		"word":   {{'0', '9'}, {'A', 'Z'}, {'_', '_'}, {'a', 'z'}},
		"xdigit": {{'0', '9'}, {'A', 'F'}, {'a', 'f'}},
	}
}

// class reads a class behind its [.
func (r *reader) class(w *Word) {
	w.Not = r.skip("^")
	for s := range r.things() {
		w.has(s)
	}
}

// things goes through what stands in a class, to its ].
func (r *reader) things() iter.Seq[api.Set] {
	return func(yield func(api.Set) bool) {
		for first := true; first || !r.skip("]"); first = false {
			if !yield(r.thing()) {
				return
			}
		}
	}
}

// thing reads one thing of a class.
func (r *reader) thing() api.Set {
	if name, ok := r.name(); ok {
		return r.named(name)
	}
	if s, ok := r.kind(); ok {
		return s
	}
	low := r.single()
	high := low
	if left := r.left(); strings.HasPrefix(left, "-") && !strings.HasPrefix(left, "-]") {
		r.skip("-")
		high = r.single()
	}
	r.must(low <= high, api.ErrSyntax)
	return set.Range(low, high)
}

// name takes what stands between [: and the next :], if these are there.
func (p *place) name() (string, bool) {
	behind, ok := strings.CutPrefix(p.left(), "[:")
	if !ok {
		return "", false
	}
	name, _, ok := strings.Cut(behind, ":]")
	if !ok {
		return "", false
	}
	return name, p.skip("[:" + name + ":]")
}

// named is what a NAME has, or, behind a ^, all else.
func (r *reader) named(name string) api.Set {
	name, not := strings.CutPrefix(name, "^")
	l, ok := r.names[name]
	r.must(ok, api.ErrSyntax)
	if not {
		return set.Not(l.set())
	}
	return l.set()
}

// kind takes an escape that is a kind of bytes, if there is one.
func (r *reader) kind() (api.Set, bool) {
	switch {
	case r.skip(`\d`):
		return r.named("digit"), true
	case r.skip(`\w`):
		return r.named("word"), true
	case r.skip(`\s`):
		return set.Of(9, 10, 12, 13, 32), true
	case r.skip(`\D`):
		return r.named("^digit"), true
	case r.skip(`\W`):
		return r.named("^word"), true
	case r.skip(`\S`):
		return set.Not(set.Of(9, 10, 12, 13, 32)), true
	}
	return api.Set{}, false
}

// spot takes an escape that is a spot, if there is one.
func (r *reader) spot() (api.NodeKind, bool) {
	switch {
	case r.skip(`\b`):
		return api.NodeWord, true
	case r.skip(`\B`):
		return api.NodeNotWord, true
	case r.skip(`\A`):
		return api.NodeBegin, true
	case r.skip(`\z`):
		return api.NodeEnd, true
	}
	return 0, false
}

// single reads a byte, or an escape that is one.
func (r *reader) single() byte {
	b := r.next()
	if b == '\\' {
		return r.escaped()
	}
	return b
}

// escaped reads what stands behind the \ of an escape that is a byte.
func (r *reader) escaped() byte {
	b := r.next()
	switch b {
	case 'n':
		return '\n'
	case 't':
		return '\t'
	case 'r':
		return '\r'
	case 'f':
		return '\f'
	case 'v':
		return '\v'
	case 'a':
		return '\a'
	case 'x':
		b, ok := r.hex()
		r.must(ok, api.ErrSyntax)
		return b
	}
	r.must(b < 128 && !set.Has(r.named("alnum"), b), api.ErrSyntax)
	return b
}
