package each

import (
	"bytes"
	"math/rand"
	"regexp"
	"slices"
	"testing"

	"mudlark/api"
	"mudlark/chance"
	"mudlark/prog"
	"mudlark/span"
	"mudlark/syntax"
	"mudlark/vm"
)

// plainMatch is the match of a run, as the chapter's bracket says it.
func plainMatch(p []api.Inst, s []byte, from int) []int {
	if from > len(s) {
		return nil
	}
	m, ok := vm.Run(p, s, from)
	if !ok || m[0] < 0 || m[1] < 0 || m[1] < m[0] || m[0] < from {
		return nil
	}
	return m
}

// plainAll is the document's words of all matches.
func plainAll(p []api.Inst, s []byte) [][]int {
	var out [][]int
	m := plainMatch(p, s, 0)
	for m != nil {
		out = append(out, m)
		begin, j := m[0], m[1]
		if begin == j {
			m = plainMatch(p, s, j+1)
			continue
		}
		m = plainMatch(p, s, j)
		if m != nil && m[0] == m[1] && m[0] == j {
			m = plainMatch(p, s, j+1)
		}
	}
	return out
}

func same(a, b [][]int) bool { return slices.EqualFunc(a, b, slices.Equal[[]int]) }

// check holds all matches, and the first ones, against the plain ones.
func check(t *testing.T, p []api.Inst, s []byte) {
	t.Helper()
	want := plainAll(p, s)
	all := All(p, s)
	for range 2 {
		if got := slices.Collect(all); !same(got, want) {
			t.Fatalf("%v on %q: %v, not %v", p, s, got, want)
		}
	}
	for most := -1; most <= len(want)+1; most++ {
		if got := Rows(p, s, most); !same(got, want[:min(max(most, 0), len(want))]) {
			t.Fatalf("%v on %q, %d: %v, not %v", p, s, most, got, want)
		}
	}
}

// made is the tree and the program of a regex.
func made(t *testing.T, regex string) (api.Node, []api.Inst) {
	t.Helper()
	n, _, at, e := syntax.Parse(regex, api.Flags{})
	if e != api.OK {
		t.Fatalf("%s: %d, %d", regex, at, e)
	}
	p, e := prog.Make(n)
	if e != api.OK {
		t.Fatalf("%s: %d", regex, e)
	}
	return n, p
}

// P15.1: the chapter's example, and others.
func TestMatches(t *testing.T) {
	for _, l := range []struct {
		regex, s string
		rows     [][]int
	}{
		{"a*", "baac", [][]int{{0, 0}, {1, 3}, {4, 4}}}, {"a*", "", [][]int{{0, 0}}}, {"", "ab", [][]int{{0, 0}, {1, 1}, {2, 2}}}, {"a", "aba", [][]int{{0, 1}, {2, 3}}}, {"a", "b", nil},
		{"a*", "aa", [][]int{{0, 2}}}, {"a|$", "aa", [][]int{{0, 1}, {1, 2}}}, {"a|", "ab", [][]int{{0, 1}, {2, 2}}}, {"|a", "aa", [][]int{{0, 0}, {1, 1}, {2, 2}}}, {"(a)|(b)", "ab", [][]int{{0, 1, 0, 1, -1, -1}, {1, 2, -1, -1, 1, 2}}},
		{"^a", "aa", [][]int{{0, 1}}}, {`\b`, "ab c", [][]int{{0, 0}, {2, 2}, {3, 3}, {4, 4}}}, {"b*?a", "bbaa", [][]int{{0, 3}, {3, 4}}}, {"aa", "aaa", [][]int{{0, 2}}},
		{"a|(?:|b)", "ab", [][]int{{0, 1}, {2, 2}}}, {"a|(?:b??|bc)", "abcd", [][]int{{0, 1}, {2, 2}, {3, 3}, {4, 4}}},
	} {
		_, p := made(t, l.regex)
		if got := slices.Collect(All(p, []byte(l.s))); !same(got, l.rows) {
			t.Errorf("%s on %q: %v", l.regex, l.s, got)
		}
		check(t, p, []byte(l.s))
	}
}

// P15.1, P15.2: none of no right program; matches whose slots are none.
func TestNone(t *testing.T) {
	match := api.Inst{Kind: api.InstMatch}
	save := func(slot, next int) api.Inst { return api.Inst{Kind: api.InstSave, Slot: slot, Next: next} }
	a := api.Inst{Kind: api.InstSet, Set: api.Set{0, 1 << ('a' - 64)}}
	aTo := func(next int) api.Inst { a.Next = next; return a }
	for i, p := range [][]api.Inst{nil, {}, {{}}, {save(0, 1)}, {match}, {save(0, 1), match}, {save(1, 1), match}, {save(1, 1), aTo(2), save(0, 3), match}, {save(1, 1), {Kind: api.InstFail}}} {
		if got := slices.Collect(All(p, []byte("aab"))); got != nil {
			t.Errorf("%d: %v", i, got)
		}
		check(t, p, []byte("aab"))
	}
	late := []api.Inst{aTo(1), save(0, 2), aTo(3), save(1, 4), match}
	if got := slices.Collect(All(late, []byte("aaaaaa"))); !same(got, [][]int{{1, 2}, {3, 4}, {5, 6}}) {
		t.Errorf("%v", got)
	}
	later := []api.Inst{aTo(1), save(0, 2), save(1, 3), match}
	if got := slices.Collect(All(later, []byte("aab"))); !same(got, [][]int{{1, 1}}) {
		t.Errorf("%v", got)
	}
	check(t, late, []byte("aaaaaa"))
	check(t, later, []byte("aaaaaa"))
}

// P15.1: it may be left at each, and is gone through again from the first one on, by two at once, too.
func TestLeft(t *testing.T) {
	_, p := made(t, "a?")
	s := []byte("aabaa")
	all := All(p, s)
	want := plainAll(p, s)
	for at := range want {
		many := 0
		for slots := range all {
			if !slices.Equal(slots, want[many]) {
				t.Errorf("%d: %v", at, slots)
			}
			for inner := range all {
				if !slices.Equal(inner, want[0]) {
					t.Errorf("%v", inner)
				}
				break
			}
			if many++; many > at {
				break
			}
		}
	}
	if got := slices.Collect(all); !same(got, want) {
		t.Errorf("%v", got)
	}
}

// someProgram is a right program of chance, which may note whatever.
func someProgram(r *rand.Rand) []api.Inst {
	p := make([]api.Inst, 2+r.Intn(8))
	for i := range p {
		in := api.Inst{Kind: api.InstKind(1 + r.Intn(3)), Next: (i + 1) % len(p)}
		if r.Intn(3) == 0 {
			in.Next = r.Intn(len(p))
		}
		switch in.Kind {
		case api.InstSet:
			in.Set[1] = uint64(1+r.Intn(7)) << ('a' - 64)
		case api.InstSplit:
			in.Other = r.Intn(len(p))
		case api.InstSave:
			in.Slot = r.Intn(2)
		}
		p[i] = in
	}
	p[len(p)-1] = api.Inst{Kind: api.InstMatch}
	if r.Intn(3) > 0 {
		p[0] = api.Inst{Kind: api.InstSave, Next: min(1, len(p)-1)}
	}
	return p
}

// P15.1, P15.2, R4: programs of chance, as the plain ones, and alike each time.
func TestChanceAgainstPlain(t *testing.T) {
	r := rand.New(rand.NewSource(151))
	many := 0
	for range 30000 {
		p, s := someProgram(r), chance.Draw(r.Intn).Text(8)
		check(t, p, s)
		many += len(plainAll(p, s))
	}
	if many < 12000 {
		t.Errorf("%d", many)
	}
}

// P15.1, P15.3: trees' programs, as the plain ones; how matches lie, and that no span is left out between them.
func TestWhatFollows(t *testing.T) {
	r := rand.New(rand.NewSource(152))
	for range 8000 {
		n, _, _, e := syntax.Parse(chance.Draw(r.Intn).Regex(3), api.Flags{})
		p, e2 := prog.Make(n)
		if e != api.OK || e2 != api.OK {
			continue
		}
		s := chance.Draw(r.Intn).Text(9)
		check(t, p, s)
		rows := Rows(p, s, 100)
		begins := map[int]bool{}
		for _, x := range span.Spans(n, s) {
			begins[x[0]] = true
		}
		end, full := 0, false // of the match ahead
		for _, m := range append(rows, []int{len(s) + 1, len(s) + 1}) {
			if m[0] < end || full && m[0] == m[1] && m[0] == end {
				t.Fatalf("%v on %q: %v", n, s, rows)
			}
			for i := end; i < m[0]; i++ {
				if spare := full && i == end; begins[i] && !spare {
					t.Fatalf("%v on %q: %v leaves out %d", n, s, rows, i)
				}
			}
			if full && m[0] != end && begins[end] {
				if x, ok := vm.Run(p, s, end); !ok || x[0] != end || x[1] != end {
					t.Fatalf("%v on %q: %v leaves out %v", n, s, rows, x)
				}
			}
			end, full = m[1], m[1] > m[0]
			if !full {
				end++
			}
		}
	}
}

// P15.1: Go's own regexes tell the same matches.
func TestAgainstGo(t *testing.T) {
	r := rand.New(rand.NewSource(153))
	for _, regex := range []string{"a*", "a*?", "", "a|", "|a", "b?a??", "(a+)(b*?)(c)?", "(?m)^", "(?m)$", "(?m)^.*$", `\b`, `\B`, `\w+`, "(a|b)+?", "x*", "(?s).", "[^a]*", "a{2}|b*"} {
		_, p := made(t, regex)
		whole := regexp.MustCompile(regex)
		for range 500 {
			s := chance.Draw(r.Intn).Text(10)
			if got, want := slices.Collect(All(p, s)), whole.FindAllSubmatchIndex(s, -1); !same(got, want) {
				t.Errorf("%s on %q: %v, not %v", regex, s, got, want)
			}
		}
	}
}

// R1: many matches of many bytes.
func TestGreatest(t *testing.T) {
	_, p := made(t, "a*")
	if got := len(slices.Collect(All(p, bytes.Repeat([]byte("ab"), 1<<15)))); got != 1<<15+1 {
		t.Errorf("%d", got)
	}
}

// R3: arguments are neither changed nor kept, slots are new each time.
func TestMemory(t *testing.T) {
	_, p := made(t, "a(b)?")
	s := []byte("abxa")
	want := plainAll(p, s)
	all := All(p, s)
	clear(p)
	clear(s)
	for slots := range all {
		clear(slots)
	}
	if got := slices.Collect(all); !same(got, want) {
		t.Errorf("%v, not %v", got, want)
	}
	_, p = made(t, "a(b)?")
	s = []byte("abxa")
	before := slices.Clone(p)
	rows := Rows(p, s, 2)
	clear(rows[0])
	if !slices.Equal(rows[1], want[1]) || !same(Rows(p, s, 2), want) || !slices.Equal(p, before) || string(s) != "abxa" {
		t.Errorf("%v", rows)
	}
}
