package tree

import (
	"math/rand"
	"slices"
	"testing"

	"mudlark/api"
	"mudlark/chance"
)

// check holds all calls of a tree against the plain ones.
func check(t *testing.T, n api.Node) {
	t.Helper()
	if got, want := Right(n), plainRight(n); got != want {
		t.Fatalf("%v: right %v", n, got)
	}
	if size, deep, groups := Size(n), Deep(n), Groups(n); size != plainSize(n) || deep != plainDeep(n) || groups != plainGroups(n) {
		t.Fatalf("%v: %d, %d, %d", n, size, deep, groups)
	}
	simple, e := Simple(n)
	if !plainRight(n) {
		if !same(simple, api.Node{}) || e != api.ErrArg {
			t.Fatalf("%v: %v, %d", n, simple, e)
		}
		return
	}
	want, ok := plainSimple(n)
	if !ok {
		if !same(simple, api.Node{}) || e != api.ErrSize {
			t.Fatalf("%v: %v, %d", n, simple, e)
		}
		return
	}
	if !same(simple, want) || e != api.OK {
		t.Fatalf("%v: %v, %d, not %v", n, simple, e, want)
	}
}

func leafOf(kind api.NodeKind) api.Node { return api.Node{Kind: kind} }

// one is the node of one byte.
func one(b byte) api.Node {
	n := leafOf(api.NodeSet)
	n.Set[b/64] = 1 << (b % 64)
	return n
}

func kids(kind api.NodeKind, l ...api.Node) api.Node { return api.Node{Kind: kind, Kids: l} }

func cats(l ...api.Node) api.Node { return kids(api.NodeCat, l...) }

func alts(l ...api.Node) api.Node { return kids(api.NodeAlt, l...) }

func times(low, high int, n api.Node) api.Node {
	return api.Node{Kind: api.NodeRepeat, Min: low, Max: high, Kids: []api.Node{n}}
}

func lazy(n api.Node) api.Node {
	n.Lazy = true
	return n
}

func group(number int, n api.Node) api.Node {
	return api.Node{Kind: api.NodeGroup, Group: number, Kids: []api.Node{n}}
}

// P11.2: the chapter's examples, and one of each row of its table.
func TestSimple(t *testing.T) {
	a, b, c := one('a'), one('b'), one('c')
	nothing, never := leafOf(empty), leafOf(none)
	for i, l := range [][2]api.Node{
		{times(2, 4, a), cats(a, a, times(0, 1, cats(a, times(0, 1, a))))},
		{cats(cats(a, b), c), cats(a, b, c)},
		{nothing, nothing}, {never, never}, {a, a}, {leafOf(api.NodeWord), leafOf(api.NodeWord)},
		{group(3, never), never}, {group(3, nothing), group(3, nothing)}, {group(2, cats(a, nothing)), group(2, a)},
		{cats(a, never), never}, {cats(nothing, nothing), nothing}, {cats(nothing, a), a}, {cats(nothing, cats(a, b), nothing, c), cats(a, b, c)}, {cats(a, alts(never, never)), never},
		{alts(never, never), never}, {alts(never, a), a}, {alts(a, nothing), alts(a, nothing)}, {alts(a, alts(b, nothing), never), alts(a, b, nothing)}, {alts(nothing, nothing), alts(nothing, nothing)},
		{times(0, 0, a), nothing}, {times(0, 0, never), nothing}, {times(3, -1, nothing), nothing}, {times(0, -1, never), nothing}, {times(0, 4, never), nothing}, {times(1, -1, never), never}, {times(2, 3, never), never},
		{times(0, -1, a), times(0, -1, a)}, {times(1, -1, a), cats(a, times(0, -1, a))}, {lazy(times(2, -1, a)), cats(a, a, lazy(times(0, -1, a)))},
		{times(1, 1, a), a}, {times(2, 2, a), cats(a, a)}, {times(0, 1, a), times(0, 1, a)}, {lazy(times(0, 2, a)), lazy(times(0, 1, cats(a, lazy(times(0, 1, a)))))},
		{times(1, 3, cats(a, b)), cats(a, b, times(0, 1, cats(a, b, times(0, 1, cats(a, b)))))},
		{times(2, 2, alts(a, b)), cats(alts(a, b), alts(a, b))}, {times(0, -1, times(0, -1, a)), times(0, -1, times(0, -1, a))},
	} {
		simple, e := Simple(l[0])
		if !same(simple, l[1]) || e != api.OK {
			t.Errorf("%d: %v, %d, not %v", i, simple, e, l[1])
		}
		check(t, l[0])
	}
}

// P11.1: each field of each kind, as it may be and not.
func TestRight(t *testing.T) {
	a := one('a')
	numbers := []int{-1 << 63, -2, -1, 0, 1, 2, 19, 20, 21, 99, 100, 101, 1<<63 - 1}
	for kind := api.NodeKind(-2); kind < 17; kind++ {
		for many := range 4 {
			n := api.Node{Kind: kind, Kids: slices.Repeat([]api.Node{a}, many)}
			check(t, n)
			check(t, lazy(n))
			for _, number := range numbers {
				inGroup, set := n, n
				inGroup.Group, set.Set = number, a.Set
				check(t, inGroup)
				check(t, set)
				for _, other := range numbers {
					repeat := n
					repeat.Min, repeat.Max = number, other
					if number != other || number <= 2 { // few alone are not too great
						check(t, repeat)
						check(t, group(1, repeat))
						check(t, lazy(repeat))
					}
				}
			}
		}
	}
	if !Right(a) || Right(api.Node{}) || Right(leafOf(api.NodeSet)) || !Right(cats(a, api.Node{Kind: empty, Kids: []api.Node{}})) {
		t.Error("right")
	}
}

// P11.1: 2000 nodes, and one more.
func TestGreatestTree(t *testing.T) {
	for _, kind := range []api.NodeKind{api.NodeCat, api.NodeAlt} {
		for _, many := range []int{1998, 1999, 2000} {
			n := kids(kind, slices.Repeat([]api.Node{one('a')}, many)...)
			check(t, n)
			if Right(n) != (many < 2000) || Size(n) != many+1 {
				t.Errorf("%d: %v, %d", many, Right(n), Size(n))
			}
		}
	}
	n := one('a')
	for range 1999 {
		n = group(20, n)
	}
	check(t, n)
	check(t, group(20, n))
}

// P11.1: Size, Deep and Groups are told of whatever tree.
func TestOfWhateverTree(t *testing.T) {
	odd := api.Node{Kind: 77, Group: 900, Kids: []api.Node{{Group: -3}, {Kids: []api.Node{{}}}}}
	if Size(odd) != 4 || Deep(odd) != 3 || Groups(odd) != 900 || Right(odd) {
		t.Errorf("%d, %d, %d", Size(odd), Deep(odd), Groups(odd))
	}
	if Size(api.Node{}) != 1 || Deep(api.Node{}) != 1 || Groups(api.Node{}) != 0 {
		t.Error("zero")
	}
	if Groups(cats(one('a'), group(4, group(9, one('b'))), group(2, one('c')))) != 9 {
		t.Error("groups")
	}
}

// R1: a tree that is deeper than calls can be ends each call, and so does one that has no end, where it is held to be right.
func TestVeryDeep(t *testing.T) {
	const deep = 3000000
	chain := make([]api.Node, deep)
	for i := range chain {
		chain[i] = api.Node{Kind: api.NodeGroup, Group: 1, Kids: chain[i+1 : min(i+2, deep)]}
	}
	if Size(chain[0]) != deep || Deep(chain[0]) != deep || Groups(chain[0]) != 1 || Right(chain[0]) {
		t.Error("deep")
	}
	if _, e := Simple(chain[0]); e != api.ErrArg {
		t.Errorf("%d", e)
	}
	round := []api.Node{{Kind: api.NodeGroup, Group: 1}}
	round[0].Kids = round
	if _, e := Simple(round[0]); Right(round[0]) || e != api.ErrArg {
		t.Errorf("%d", e)
	}
}

// P11.2: simple trees of 2000 nodes, and of one more; what is too great within a tree that is not.
func TestTooGreat(t *testing.T) {
	a := one('a')
	many := func(l int, with ...api.Node) api.Node {
		return cats(append(with, slices.Repeat([]api.Node{times(19, 19, a)}, l)...)...)
	}
	for i, l := range []struct {
		n api.Node
		e api.Errno
	}{
		{many(105, a, a, a, a), api.OK}, {many(105, a, a, a, a, a), api.ErrSize},
		{times(100, 100, times(20, 20, a)), api.ErrSize}, {times(100, 100, times(19, 19, a)), api.OK},
		{times(0, 0, times(100, 100, times(20, 20, a))), api.ErrSize}, {cats(leafOf(none), times(100, -1, times(20, 20, a))), api.ErrSize},
		{times(0, 100, times(0, 100, a)), api.ErrSize}, {times(0, 100, cats(slices.Repeat([]api.Node{a}, 18)...)), api.OK}, {times(0, 100, cats(slices.Repeat([]api.Node{a}, 19)...)), api.ErrSize},
		{times(100, 100, times(100, 100, times(100, 100, times(100, 100, leafOf(empty))))), api.OK},
		{times(100, 100, times(100, 100, leafOf(none))), api.OK},
		{times(0, -1, cats(slices.Repeat([]api.Node{a}, 1998)...)), api.OK}, {times(1, -1, cats(slices.Repeat([]api.Node{a}, 1998)...)), api.ErrSize},
		{group(1, many(105, a, a, a, a)), api.ErrSize}, {group(1, many(105, a, a, a)), api.OK},
		{alts(many(105, a, a, a), a), api.ErrSize}, {alts(many(105, a, a), a), api.OK},
	} {
		if _, e := Simple(l.n); e != l.e {
			t.Errorf("%d: %d", i, e)
		}
		check(t, l.n)
	}
}

// P11.1, P11.2, R4: trees of chance, right ones and others, as the plain ones, and alike each time.
func TestChanceAgainstPlain(t *testing.T) {
	r := rand.New(rand.NewSource(111))
	great, wrong := 0, 0
	for range 6000 {
		n := chance.Draw(r.Intn).Tree(6)
		check(t, n)
		check(t, n)
		if _, e := Simple(n); e == api.ErrSize {
			great++
		}
		n = spoilt(r, n)
		check(t, n)
		if !Right(n) {
			wrong++
		}
	}
	if great < 25 || wrong < 2500 {
		t.Errorf("%d, %d", great, wrong)
	}
}

// P11.3: what a simple tree is.
func TestWhatFollows(t *testing.T) {
	r := rand.New(rand.NewSource(112))
	for range 6000 {
		n := chance.Draw(r.Intn).Tree(6)
		simple, e := Simple(n)
		if e != api.OK {
			continue
		}
		again, e := Simple(simple)
		if !Right(simple) || e != api.OK || !same(simple, again) {
			t.Fatalf("%v: %v, %v, %d", n, simple, again, e)
		}
		if simple.Kind != empty && simple.Kind != none {
			within(t, simple)
		}
	}
}

// within holds what may stand in a simple tree.
func within(t *testing.T, n api.Node) {
	t.Helper()
	if n.Kind == api.NodeRepeat && (n.Min != 0 || n.Max != 1 && n.Max != -1) {
		t.Fatalf("%v", n)
	}
	for _, kid := range n.Kids {
		if kid.Kind == none || kid.Kind == empty && n.Kind != api.NodeAlt && n.Kind != api.NodeGroup || kid.Kind == n.Kind && (n.Kind == api.NodeCat || n.Kind == api.NodeAlt) {
			t.Fatalf("%v", n)
		}
		within(t, kid)
	}
}

// R3: a simple tree has memory of its own, each list its own, and the tree is as it was.
func TestMemory(t *testing.T) {
	r := rand.New(rand.NewSource(113))
	for range 1500 {
		n := chance.Draw(r.Intn).Tree(5)
		before := copyOf(n)
		simple, _ := Simple(n)
		if !same(n, before) {
			t.Fatal("changed")
		}
		seen := map[*api.Node]bool{}
		note(t, n, seen, false)
		note(t, simple, seen, true)
	}
	list := []api.Node{one('a')}
	n, _ := Simple(api.Node{Kind: api.NodeBegin, Kids: list[:0]})
	if cap(n.Kids) != 0 {
		t.Error("shared")
	}
}

// note notes the places of all kids of a tree, and tells of those that were there.
func note(t *testing.T, n api.Node, seen map[*api.Node]bool, tell bool) {
	all := n.Kids[:cap(n.Kids)]
	for i := range all {
		if tell && seen[&all[i]] {
			t.Fatal("shared")
		}
		seen[&all[i]] = true
	}
	for _, kid := range n.Kids {
		note(t, kid, seen, tell)
	}
}

// P11.1: nodes that are gone through are left where a loop ends.
func TestNodesAreLeft(t *testing.T) {
	for deep, n := range nodes(cats(one('a'), one('b'))) {
		if deep != 1 || n.Kind != api.NodeCat {
			t.Errorf("%d, %v", deep, n)
		}
		break
	}
}
