package prog

import (
	"math/rand"
	"slices"
	"testing"

	"mudlark/api"
	"mudlark/chance"
	"mudlark/span"
	"mudlark/syntax"
	"mudlark/tree"
)

// check holds a right tree's program against the plain one.
func check(t *testing.T, n api.Node) {
	t.Helper()
	p, e := Make(n)
	simple, wantE := tree.Simple(n)
	var want []api.Inst
	if wantE == api.OK {
		if want = plainMake(simple); len(want) > 4000 {
			want, wantE = nil, api.ErrSize
		}
	}
	if !slices.Equal(p, want) || e != wantE {
		t.Fatalf("%v: %v, %d, not %v, %d", n, p, e, want, wantE)
	}
	if e == api.OK && !Right(p) || Slots(p) != plainSlots(p) {
		t.Fatalf("%v: %v, %d", p, Right(p), Slots(p))
	}
}

// read is the tree of a regex.
func read(t *testing.T, regex string) api.Node {
	t.Helper()
	n, _, at, e := syntax.Parse(regex, api.Flags{})
	if e != api.OK {
		t.Fatalf("%s: %d, %d", regex, at, e)
	}
	return n
}

func setOf(b byte) api.Set {
	var s api.Set
	s[b/64] = 1 << (b % 64)
	return s
}

func inSet(b byte, next int) api.Inst {
	return api.Inst{Kind: api.InstSet, Set: setOf(b), Next: next}
}

// P13.2: the chapter's example, and one of each row of its table.
func TestPrograms(t *testing.T) {
	match, fail := api.Inst{Kind: api.InstMatch}, api.Inst{Kind: api.InstFail}
	fork := func(next, other int) api.Inst { return api.Inst{Kind: api.InstSplit, Next: next, Other: other} }
	spot := func(k api.NodeKind, next int) api.Inst {
		return api.Inst{Kind: api.InstSpot, Spot: k, Next: next}
	}
	for regex, want := range map[string][]api.Inst{
		"a*":       {save(0, 2), inSet('a', 2), fork(1, 3), save(1, 4), match},
		"a*?":      {save(0, 2), inSet('a', 2), fork(3, 1), save(1, 4), match},
		"":         {save(0, 1), save(1, 2), match},
		`[^\d\D]`:  {save(0, 1), fail, save(1, 3), match},
		"ab":       {save(0, 1), inSet('a', 2), inSet('b', 3), save(1, 4), match},
		"a|b|c":    {save(0, 1), fork(2, 3), inSet('a', 6), fork(4, 5), inSet('b', 6), inSet('c', 6), save(1, 7), match},
		"a?":       {save(0, 1), fork(2, 3), inSet('a', 3), save(1, 4), match},
		"a??":      {save(0, 1), fork(3, 2), inSet('a', 3), save(1, 4), match},
		"(a)":      {save(0, 1), save(2, 2), inSet('a', 3), save(3, 4), save(1, 5), match},
		"()":       {save(0, 1), save(2, 2), save(3, 3), save(1, 4), match},
		`^\b`:      {save(0, 1), spot(api.NodeBegin, 2), spot(api.NodeWord, 3), save(1, 4), match},
		"(?:a|)*b": {save(0, 3), fork(2, 3), inSet('a', 3), fork(1, 4), inSet('b', 5), save(1, 6), match},
		"a{1,2}":   {save(0, 1), inSet('a', 2), fork(3, 4), inSet('a', 4), save(1, 5), match},
	} {
		if p, e := Make(read(t, regex)); !slices.Equal(p, want) || e != api.OK {
			t.Errorf("%s: %v, %d, not %v", regex, p, e, want)
		}
		check(t, read(t, regex))
	}
}

// P13.1: each field of each kind, as it may be and not.
func TestRight(t *testing.T) {
	p := []api.Inst{save(0, 1), {}, {Kind: api.InstFail}, {Kind: api.InstMatch}}
	try := func(in api.Inst) {
		t.Helper()
		p[1] = in
		if got := Right(p); got != plainRight(p) {
			t.Fatalf("%v: %v", in, got)
		}
	}
	numbers := []int{-1 << 63, -1, 0, 1, 2, 3, 4, 5, 7, 8, 13, 14, 40, 41, 42, 1<<63 - 1}
	for kind := api.InstKind(-1); kind < 9; kind++ {
		for _, set := range []api.Set{{}, setOf('a'), setOf(255)} {
			for _, spot := range []api.NodeKind{0, 8, 9} {
				for _, slot := range []int{0, 1, 2} {
					for _, next := range numbers[:10] {
						for _, other := range numbers[:10] {
							try(api.Inst{Kind: kind, Set: set, Next: next, Other: other, Slot: slot, Spot: spot})
						}
					}
				}
			}
		}
		for _, number := range numbers {
			try(api.Inst{Kind: kind, Set: setOf('a'), Next: number})
			try(api.Inst{Kind: kind, Next: number, Other: 1})
			try(api.Inst{Kind: kind, Next: 1, Other: number})
			try(api.Inst{Kind: kind, Slot: number, Next: 1})
			try(api.Inst{Kind: kind, Spot: api.NodeKind(number), Next: 1})
		}
	}
	p[1] = save(0, 1)
	if !Right(p) || Right(nil) || Right([]api.Inst{{}}) || !Right([]api.Inst{{Kind: api.InstMatch}}) || Right(p[:1]) || !Right(p[2:3]) {
		t.Error("right")
	}
	p[0], p[3] = save(0, 4), api.Inst{}
	if Right(p) || Right(p[1:]) {
		t.Error("the first and the last one")
	}
}

// P13.1: 4000 instructions, and one more.
func TestGreatestProgram(t *testing.T) {
	p := slices.Repeat([]api.Inst{{Kind: api.InstFail}}, 4001)
	if !Right(p[:4000]) || Right(p) {
		t.Error("4000")
	}
	p[0].Kind, p[0].Set, p[0].Next = api.InstSet, setOf(0), 3999
	if !Right(p[:4000]) || Right(p[:3999]) {
		t.Error("3999")
	}
}

// P13.1: slots, of whatever instructions.
func TestSlots(t *testing.T) {
	for slot, want := range map[int]int{-5: 2, -1: 2, 0: 2, 1: 2, 2: 4, 3: 4, 4: 6, 40: 42, 41: 42, 42: 44, 1001: 1002} {
		for _, p := range [][]api.Inst{{{Slot: slot}}, {save(1, 0), {Kind: 77, Slot: slot}, {Kind: api.InstMatch}}} {
			if got := Slots(p); got != want {
				t.Errorf("%d: %d", slot, got)
			}
		}
	}
	if Slots(nil) != 2 || Slots([]api.Inst{save(9, 0), save(4, 0)}) != 10 {
		t.Error("slots")
	}
}

// P13.2: trees that are not right, simple trees that are too great, programs of 4000 instructions and of more.
func TestErrors(t *testing.T) {
	chain := func(groups int, n api.Node) api.Node {
		for range groups {
			n = api.Node{Kind: api.NodeGroup, Group: 1, Kids: []api.Node{n}}
		}
		return n
	}
	a, empty := read(t, "a"), read(t, "")
	for i, l := range []struct {
		n     api.Node
		insts int
		e     api.Errno
	}{
		{api.Node{}, 0, api.ErrArg}, {api.Node{Kind: api.NodeSet}, 0, api.ErrArg}, {chain(2000, a), 0, api.ErrArg}, {api.Node{Kind: api.NodeCat, Kids: []api.Node{a, {}}}, 0, api.ErrArg},
		{read(t, "(?:a{100}){20}"), 0, api.ErrSize}, {read(t, "(?:(?:a{100}){20}){0}"), 0, api.ErrSize},
		{chain(1998, a), 4000, api.OK}, {chain(1999, empty), 0, api.ErrSize}, {chain(1999, a), 0, api.ErrSize}, {chain(1998, empty), 3999, api.OK},
	} {
		p, e := Make(l.n)
		if len(p) != l.insts || e != l.e {
			t.Errorf("%d: %d, %d", i, len(p), e)
		}
		check(t, l.n)
	}
}

// P13.2, P13.3, R4: trees of chance, as the plain ones, alike each time; programs that come to their match just where the tree matches.
func TestChanceAgainstPlain(t *testing.T) {
	r := rand.New(rand.NewSource(131))
	for range 6000 {
		n := chance.Draw(r.Intn).Tree(5)
		check(t, n)
		check(t, n)
		p, e := Make(n)
		if e != api.OK || len(p) > 300 {
			continue
		}
		s := chance.Draw(r.Intn).Text(6)
		var spans [][2]int
		for i := range len(s) + 1 {
			ends := comesTo(p, s, i)
			for j := range len(s) + 1 {
				if ends[j] {
					spans = append(spans, [2]int{i, j})
				}
			}
		}
		if want := span.Spans(n, s); !slices.Equal(spans, want) {
			t.Fatalf("%v on %q: %v, not %v", n, s, spans, want)
		}
	}
}

// R3: a program is new memory, and the tree is as it was.
func TestMemory(t *testing.T) {
	n := read(t, "(a|b)*c{2}")
	p, _ := Make(n)
	clear(p)
	check(t, n)
	check(t, read(t, "(a|b)*c{2}"))
}

// P13.1: numbers that are gone through are left where a loop ends.
func TestNextsAreLeft(t *testing.T) {
	for to := range nexts(api.Inst{Kind: api.InstSplit, Next: 3, Other: 4}) {
		if to != 3 {
			t.Errorf("%d", to)
		}
		break
	}
}
