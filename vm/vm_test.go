package vm

import (
	"bytes"
	"math/rand"
	"regexp"
	"slices"
	"testing"

	"mudlark/api"
	"mudlark/chance"
	"mudlark/prog"
	"mudlark/span"
	"mudlark/syntax"
)

// plain goes ways one behind the other, as the document's words say it.
type plain struct {
	p   []api.Inst
	s   []byte
	was map[[2]int]bool
}

// go goes on from an instruction at a place, and tells the slots of the first match that it leads to.
func (m *plain) on(at, place int, slots []int) []int {
	if m.was[[2]int{at, place}] {
		return nil
	}
	m.was[[2]int{at, place}] = true
	in := m.p[at]
	switch in.Kind {
	case api.InstSet:
		if place < len(m.s) && in.Set[m.s[place]/64]>>(m.s[place]%64)%2 == 1 {
			return m.on(in.Next, place+1, slots)
		}
	case api.InstSplit:
		if found := m.on(in.Next, place, slots); found != nil {
			return found
		}
		return m.on(in.Other, place, slots)
	case api.InstSave:
		slots = slices.Clone(slots)
		slots[in.Slot] = place
		return m.on(in.Next, place, slots)
	case api.InstSpot:
		if span.Spot(in.Spot, m.s, place) {
			return m.on(in.Next, place, slots)
		}
	case api.InstMatch:
		return slots
	}
	return nil
}

// plainRun is P14.1 as its words say it.
func plainRun(p []api.Inst, s []byte, at int) ([]int, bool) {
	if !prog.Right(p) || at < 0 || at > len(s) {
		return nil, false
	}
	m := &plain{p, s, map[[2]int]bool{}}
	for place := at; place <= len(s); place++ {
		if found := m.on(0, place, slices.Repeat([]int{-1}, prog.Slots(p))); found != nil {
			return found, true
		}
	}
	return nil, false
}

// check holds a run against the plain one.
func check(t *testing.T, p []api.Inst, s []byte, at int) {
	t.Helper()
	got, ok := Run(p, s, at)
	want, wantOK := plainRun(p, s, at)
	if !slices.Equal(got, want) || ok != wantOK || (got == nil) == ok {
		t.Fatalf("%v on %q from %d: %v, %v, not %v, %v", p, s, at, got, ok, want, wantOK)
	}
}

// made is the tree and the program of a regex.
func made(t *testing.T, regex string) (api.Node, []api.Inst) {
	t.Helper()
	n, _, at, e := syntax.Parse(regex, api.Flags{})
	if e != api.OK {
		t.Fatalf("%s: %d, %d", regex, at, e)
	}
	p, e := prog.Make(n)
	if e != api.OK {
		t.Fatalf("%s: %d", regex, e)
	}
	return n, p
}

// P14.1: the chapter's example, and first ways.
func TestMatches(t *testing.T) {
	for _, l := range []struct {
		regex, s string
		at       int
		slots    []int
	}{
		{"(a|ab)(c|bcd)?", "xabcd", 0, []int{1, 5, 1, 2, 2, 5}}, {"a|ab", "ab", 0, []int{0, 1}}, {"ab|a", "ab", 0, []int{0, 2}}, {"(a*)*", "b", 0, []int{0, 0, -1, -1}},
		{"", "", 0, []int{0, 0}}, {"", "ab", 2, []int{2, 2}}, {"a", "bab", 2, nil}, {"b", "bab", 1, []int{2, 3}}, {"a*", "baa", 0, []int{0, 0}}, {"a*", "baa", 1, []int{1, 3}}, {"a*?", "aa", 0, []int{0, 0}}, {"a+?", "aa", 0, []int{0, 1}}, {"a??b", "ab", 0, []int{0, 2}},
		{"(a)|(b)", "b", 0, []int{0, 1, -1, -1, 0, 1}}, {"(?:(a)|(b))*", "ab", 0, []int{0, 2, 0, 1, 1, 2}}, {"(a|b)*", "abb", 0, []int{0, 3, 2, 3}}, {"(a{2})?a", "aa", 0, []int{0, 1, -1, -1}},
		{"^b", "ab", 1, nil}, {"(?m)^b", "a\nb", 0, []int{2, 3}}, {`\bb`, "ab b", 1, []int{3, 4}}, {"a$", "aa", 0, []int{1, 2}}, {`[^\d\D]|b`, "ab", 0, []int{1, 2}}, {"a.c|ab", "abdabc", 0, []int{0, 2}}, {"a.c|b", "abdabc", 0, []int{1, 2}}, {"abc|b", "abd", 0, []int{1, 2}},
		{"(?:a|ab)(?:c|bcd)(?:d*)", "abcd", 0, []int{0, 4}}, {"(|a)*", "a", 0, []int{0, 1, 0, 1}}, {"(a|)*", "aa", 0, []int{0, 2, 1, 2}},
	} {
		_, p := made(t, l.regex)
		if got, ok := Run(p, []byte(l.s), l.at); !slices.Equal(got, l.slots) || ok != (l.slots != nil) {
			t.Errorf("%s on %q from %d: %v, %v", l.regex, l.s, l.at, got, ok)
		}
		check(t, p, []byte(l.s), l.at)
	}
}

// P14.1: none of a program that is not right, or from a place that there is not.
func TestNone(t *testing.T) {
	_, p := made(t, "a*")
	s := []byte("aa")
	for _, at := range []int{-1 << 63, -1, 3, 1<<63 - 1} {
		if got, ok := Run(p, s, at); got != nil || ok {
			t.Errorf("%d: %v, %v", at, got, ok)
		}
	}
	match := api.Inst{Kind: api.InstMatch}
	for _, p := range [][]api.Inst{nil, {{}}, p[:len(p)-1], {{Kind: api.InstSave, Next: 1}}, {{Kind: api.InstSave, Slot: 42, Next: 1}, match}, {{Kind: api.InstSave, Slot: -1, Next: 1}, match}, {match, {Kind: 9}}, slices.Repeat([]api.Inst{match}, 4001)} {
		if got, ok := Run(p, s, 0); got != nil || ok {
			t.Errorf("%v: %v, %v", p, got, ok)
		}
	}
	if got, ok := Run([]api.Inst{match}, nil, 0); !slices.Equal(got, []int{-1, -1}) || !ok {
		t.Errorf("%v, %v", got, ok)
	}
}

// someProgram is a right program of chance, which may go round, and note whatever.
func someProgram(r *rand.Rand) []api.Inst {
	p := make([]api.Inst, 1+r.Intn(9))
	for i := range p {
		in := api.Inst{Kind: api.InstKind(1 + r.Intn(6)), Next: r.Intn(len(p))}
		if r.Intn(2) == 0 {
			in.Kind, in.Next = api.InstKind(1+r.Intn(3)), (i+1)%len(p)
		}
		switch in.Kind {
		case api.InstSet:
			in.Set[1] = uint64(1+r.Intn(7)) << ('a' - 64)
		case api.InstSplit:
			in.Other = r.Intn(len(p))
		case api.InstSave:
			in.Slot = r.Intn(5)
		case api.InstSpot:
			in.Spot = api.NodeBegin + api.NodeKind(r.Intn(6))
		default:
			in.Next = 0
		}
		p[i] = in
	}
	return p
}

// P14.1, R4: programs of chance on bytes of chance, as the plain ones, and alike each time.
func TestChanceAgainstPlain(t *testing.T) {
	r := rand.New(rand.NewSource(141))
	told := 0
	for range 60000 {
		p, s := someProgram(r), chance.Draw(r.Intn).Text(6)
		if !prog.Right(p) {
			t.Fatal(p)
		}
		for at := -1; at <= len(s)+1; at++ {
			check(t, p, s, at)
			check(t, p, s, at)
		}
		if _, ok := Run(p, s, 0); ok {
			told++
		}
	}
	if told < 10000 {
		t.Errorf("%d", told)
	}
}

// P14.1, P14.2: trees' programs, as the plain ones; matches begin and end as the tree's spans do, and are told from further on alike.
func TestWhatFollows(t *testing.T) {
	r := rand.New(rand.NewSource(142))
	for range 15000 {
		n, _, _, e := syntax.Parse(chance.Draw(r.Intn).Regex(3), api.Flags{})
		p, e2 := prog.Make(n)
		if e != api.OK || e2 != api.OK {
			continue
		}
		s := chance.Draw(r.Intn).Text(9)
		at := r.Intn(len(s) + 1)
		check(t, p, s, at)
		spans := slices.DeleteFunc(span.Spans(n, s), func(x [2]int) bool { return x[0] < at })
		slots, ok := Run(p, s, at)
		if ok != (len(spans) > 0) {
			t.Fatalf("%v on %q from %d: %v, %v", n, s, at, slots, spans)
		}
		if !ok {
			continue
		}
		if slots[0] != spans[0][0] || !slices.Contains(spans, [2]int{slots[0], slots[1]}) {
			t.Fatalf("%v on %q from %d: %v, %v", n, s, at, slots, spans)
		}
		for further := at; further <= slots[0]; further++ {
			if again, ok := Run(p, s, further); !ok || !slices.Equal(again, slots) {
				t.Fatalf("%v on %q from %d, %d: %v, %v", n, s, at, further, slots, again)
			}
		}
	}
}

// P14.1: Go's own regexes tell the same slots, where what is repeated takes something.
func TestAgainstGo(t *testing.T) {
	r := rand.New(rand.NewSource(143))
	for _, regex := range []string{"(a|ab)(c|bcd)?", "(a+)(b*?)(c)?", "((a)|(b))+", "(?:(a)|b)*?c", "(a{1,2})(a{0,2}?)(b)", "(ab?)*", "(a|b|ab)+?c", "x*", "(?:a(b)?)+", "(?m)^(a*)$", `\b(\w+)\b`, "(.*)(b)(.*?)", "(?s)(.*)c", "(a??)(a??)b"} {
		_, p := made(t, regex)
		whole := regexp.MustCompile(regex)
		for range 600 {
			s := chance.Draw(r.Intn).Text(10)
			slots, _ := Run(p, s, 0)
			if want := whole.FindSubmatchIndex(s); !slices.Equal(slots, want) {
				t.Errorf("%s on %q: %v, not %v", regex, s, slots, want)
			}
		}
	}
}

// R1: what goes round, many ways, and many bytes.
func TestGreatest(t *testing.T) {
	s := bytes.Repeat([]byte("ab"), 1<<17)
	_, p := made(t, "(?:(?:a*)*b*)*c")
	if got, ok := Run(p, s, 0); ok {
		t.Errorf("%v", got)
	}
	_, p = made(t, "(?:a|b|ab|ba)*b$")
	if got, ok := Run(p, s, 1); !ok || !slices.Equal(got, []int{1, 1 << 18}) {
		t.Errorf("%v", got)
	}
	round := make([]api.Inst, 4000)
	for i := range round {
		round[i] = api.Inst{Kind: api.InstSplit, Next: (i + 1) % 4000, Other: (i + 7) % 4000}
	}
	check(t, round, s[:20], 0)
	round[3999] = api.Inst{Kind: api.InstMatch}
	check(t, round, s[:20], 0)
}

// R3: slots are new, and program and bytes are as they were.
func TestMemory(t *testing.T) {
	_, p := made(t, "(a)(b)?")
	s, before := []byte("xa"), slices.Clone(p)
	slots, _ := Run(p, s, 0)
	clear(slots)
	check(t, p, s, 0)
	if !slices.Equal(p, before) || string(s) != "xa" {
		t.Errorf("%v, %q", p, s)
	}
}

// P14.1: ways that are gone through are left where a loop ends.
func TestWaysAreLeft(t *testing.T) {
	var w ways
	w.put(3, 1)
	w.put(4)
	w.turn()
	for first := range w.each() {
		if first.at != 3 {
			t.Errorf("%v", first)
		}
		break
	}
	if len(w.now) != 1 {
		t.Errorf("%v", w.now)
	}
}
