package query

import (
	"math/rand"
	"slices"
	"testing"

	"mudlark/api"
)

// check holds what is told of a query against the plain words.
func check(t *testing.T, q api.Query, grams []string) {
	t.Helper()
	if text, want := Text(q), plainText(q); text != want {
		t.Fatalf("%v: %s, not %s", q, text, want)
	}
	if Right(q) != plainRight(q) {
		t.Fatalf("%s: right %v", Text(q), Right(q))
	}
	if Sat(q, grams) != plainSat(q, grams) {
		t.Fatalf("%s of %q: %v", Text(q), grams, Sat(q, grams))
	}
}

// checkBoth holds And and Or of queries against the plain ones.
func checkBoth(t *testing.T, l ...api.Query) {
	t.Helper()
	if got, want := And(l...), plainAnd(l...); !same(got, want) {
		t.Fatalf("and of %v: %v, not %v", l, got, want)
	}
	if got, want := Or(l...), plainOr(l...); !same(got, want) {
		t.Fatalf("or of %v: %v, not %v", l, got, want)
	}
}

func and(grams []string, subs ...api.Query) api.Query {
	return api.Query{Kind: api.QueryAnd, Grams: grams, Subs: subs}
}

func or(grams []string, subs ...api.Query) api.Query {
	return api.Query{Kind: api.QueryOr, Grams: grams, Subs: subs}
}

// g is some texts.
func g(l ...string) []string { return l }

// P16.2: the chapter's examples, and others.
func TestExamples(t *testing.T) {
	a, b, every, no := Grams("abc"), Grams("bcd"), api.Query{Kind: api.QueryAll}, api.Query{Kind: api.QueryNone}
	for i, l := range []struct {
		q    api.Query
		text string
	}{
		{And(a, b), "(616263&626364)"}, {Or(a, no), "(616263)"}, {Or(a, b), "(616263|626364)"}, {And(b, a, b), "(616263&626364)"},
		{And(), "+"}, {Or(), "-"}, {And(every, every), "+"}, {Or(no), "-"}, {And(a, no), "-"}, {Or(a, every), "+"}, {And(a, every), "(616263)"}, {And(api.Query{}, a), "-"}, {Or(api.Query{}, a), "(616263)"}, {And(api.Query{Kind: 5}), "-"}, {Or(api.Query{Kind: 5}), "-"},
		{And(Or(a, b)), "(616263|626364)"}, {And(Or(a, b), Or(b, a)), "(616263|626364)"}, {And(a, Or(a, b)), "(616263&(616263|626364))"}, {Or(And(a, b)), "(616263&626364)"}, {Or(And(a, b), And(b, a), no), "(616263&626364)"}, {Or(a, And(a, b)), "(616263|(616263&626364))"},
		{And(And(a, Or(a, b)), Or(b, a), b), "(616263&626364&(616263|626364))"}, {Or(Or(a, And(a, b)), b), "(616263|626364|(616263&626364))"},
		{Grams(), "+"}, {Grams("bcd", "abc", "bcd"), "(616263&626364)"}, {Grams("abc", "ab"), "-"}, {Grams("abcd"), "-"}, {Grams(""), "-"}, {Grams("\x00\xff "), "(00ff20)"},
		{and(nil), "()"}, {or(nil), "()"}, {or(g("abc")), "(616263)"}, {api.Query{Kind: 9}, "?"}, {api.Query{}, "?"}, {and(g("a", "abcd"), every, no, api.Query{Kind: -1}), "(61&61626364&+&-&?)"}, {api.Query{Kind: api.QueryAll, Grams: g("abc")}, "+"},
	} {
		if got := Text(l.q); got != l.text {
			t.Errorf("%d: %s, not %s", i, got, l.text)
		}
		check(t, l.q, g("abc", "bcd"))
	}
}

// P16.1: each of the words of a right query.
func TestRight(t *testing.T) {
	a, b, c := "aaa", "bbb", "ccc"
	ab, bc := and(g(a, b)), and(g(b, c))
	aOrB, bOrC := or(g(a, b)), or(g(b, c))
	for i, l := range []struct {
		q  api.Query
		ok bool
	}{
		{api.Query{Kind: api.QueryAll}, true}, {api.Query{Kind: api.QueryNone}, true}, {api.Query{}, false}, {api.Query{Kind: 5}, false}, {api.Query{Kind: 5, Grams: g(a, b)}, false}, {api.Query{Kind: api.QueryAll, Grams: g(a)}, false}, {api.Query{Kind: api.QueryNone, Subs: []api.Query{ab}}, false}, {api.Query{Kind: api.QueryAll, Grams: g()}, true},
		{and(nil), false}, {and(g(a)), true}, {and(g(a, b)), true}, {and(g(b, a)), false}, {and(g(a, a)), false}, {and(g("aa")), false}, {and(g("aaaa")), false}, {and(g("")), false}, {and(g(a, "bb")), false},
		{and(nil, aOrB), false}, {and(nil, aOrB, bOrC), true}, {and(nil, bOrC, aOrB), false}, {and(nil, aOrB, aOrB), false}, {and(g(c), aOrB), true}, {and(g(c), ab), false}, {and(g(c), api.Query{Kind: api.QueryAll}), false}, {and(g(c), or(g(a))), false}, {and(g(c), aOrB, or(g(b, a))), false},
		{or(nil), false}, {or(g(a)), false}, {or(g(a, b)), true}, {or(g(b, a)), false}, {or(g(a, a)), false}, {or(g(a, "b")), false}, {or(nil, ab), false}, {or(nil, ab, bc), true}, {or(nil, bc, ab), false}, {or(g(c), ab), true}, {or(g(c), aOrB), false}, {or(g(c), and(g(a))), false}, {or(g(c), and(nil, aOrB, bOrC)), true}, {or(g(c), and(g(a), bOrC)), true}, {or(g(c), and(nil, aOrB)), false}, {or(g(c), api.Query{Kind: api.QueryNone}), false},
		{and(g(a), or(g(b), and(g(c), or(g(a, c))))), true}, {and(g(a), or(g(b), and(g(c), or(g(c, a))))), false}, {and(nil, or(nil, ab, bc), or(g(a), bc)), true}, {and(nil, or(g(a), bc), or(nil, ab, bc)), false}, {and(nil, or(nil, ab, bc), or(g(b), bc)), true},
	} {
		if Right(l.q) != l.ok {
			t.Errorf("%d: %s: %v", i, Text(l.q), Right(l.q))
		}
		check(t, l.q, g(a))
	}
}

// P16.1: what satisfies a query; texts that are no grams are not there.
func TestSat(t *testing.T) {
	every, no := api.Query{Kind: api.QueryAll}, api.Query{Kind: api.QueryNone}
	for i, l := range []struct {
		q     api.Query
		grams []string
		ok    bool
	}{
		{every, nil, true}, {no, g("abc"), false}, {api.Query{}, g("abc"), false}, {api.Query{Kind: 7}, nil, false}, {and(nil), nil, true}, {or(nil), g("abc"), false},
		{and(g("abc", "bcd")), g("bcd", "x", "abc"), true}, {and(g("abc", "bcd")), g("bcd"), false}, {or(g("abc", "bcd")), g("bcd", "bcd"), true}, {or(g("abc")), nil, false}, {and(g("ab")), g("ab"), false}, {or(g("ab", "abcd", "")), g("", "ab", "abcd"), false},
		{and(g("abc"), every, or(g("x"), no, and(g("bcd")))), g("abc", "bcd"), true}, {and(g("abc"), or(g("bcd"))), g("abc"), false}, {or(nil, no, every), nil, true}, {api.Query{Kind: api.QueryNone, Subs: []api.Query{every}}, nil, false},
	} {
		if Sat(l.q, l.grams) != l.ok {
			t.Errorf("%d", i)
		}
		check(t, l.q, l.grams)
	}
}

// P16.1, P16.2, R4: queries of chance, right ones and others, as the plain ones, and alike each time.
func TestChanceAgainstPlain(t *testing.T) {
	r := rand.New(rand.NewSource(161))
	right, satisfied := 0, 0
	for range 12000 {
		q, grams := someRight(r, 4), someGrams(r)
		for _, q := range []api.Query{q, some(r, 3), spoilt(r, q)} {
			check(t, q, grams)
			check(t, q, grams)
			if Right(q) {
				right++
			}
			if Sat(q, grams) {
				satisfied++
			}
		}
		l := []api.Query{q, some(r, 2), someRight(r, 2), some(r, 1)}[:r.Intn(5)]
		r.Shuffle(len(l), func(i, j int) { l[i], l[j] = l[j], l[i] })
		checkBoth(t, l...)
		checkBoth(t, l...)
		checkBoth(t, append(l, l...)...)
	}
	if right < 13000 || right > 33000 || satisfied < 6000 {
		t.Errorf("%d, %d", right, satisfied)
	}
}

// P16.3: And and Or of right queries are right, and satisfied as they are; more grams satisfy what fewer do; one text is one right query.
func TestWhatFollows(t *testing.T) {
	r := rand.New(rand.NewSource(162))
	byText := map[string]api.Query{}
	for range 20000 {
		a, b, grams := someRight(r, 3), someRight(r, 3), someGrams(r)
		if !Right(And(a, b)) || !Right(Or(a, b)) || !Right(And(a, b, a)) || !Right(Or(b, a, b)) {
			t.Fatalf("%s, %s: %s, %s", Text(a), Text(b), Text(And(a, b)), Text(Or(a, b)))
		}
		if Sat(And(a, b), grams) != (Sat(a, grams) && Sat(b, grams)) || Sat(Or(a, b), grams) != (Sat(a, grams) || Sat(b, grams)) {
			t.Fatalf("%s, %s of %q", Text(a), Text(b), grams)
		}
		if Sat(a, grams) && !Sat(a, append(grams, someGrams(r)...)) {
			t.Fatalf("%s of %q", Text(a), grams)
		}
		if other, ok := byText[Text(a)]; ok && !same(a, other) {
			t.Fatalf("%v, %v", a, other)
		}
		byText[Text(a)] = a
	}
	if len(byText) < 2000 {
		t.Errorf("%d", len(byText))
	}
}

// R1: a very deep query.
func TestVeryDeep(t *testing.T) {
	q := and(g("aaa", "aab"))
	for range 50000 {
		q = and(g("aaa"), or(g("aaa"), q))
	}
	if !Right(q) || !Sat(q, g("aaa")) || Sat(q, g("aab")) || len(Text(q)) != 15+50000*18 {
		t.Errorf("%v, %d", Right(q), len(Text(q)))
	}
	if both := And(q, Or(q, Grams("aab"))); !Right(both) {
		t.Error("both")
	}
}

// R3: what is handed out shares no memory, neither with what is handed in nor within itself.
func TestMemory(t *testing.T) {
	r := rand.New(rand.NewSource(163))
	for range 5000 {
		l := []api.Query{some(r, 3), someRight(r, 3), someRight(r, 2)}
		for _, made := range []func(...api.Query) api.Query{And, Or} {
			before := []api.Query{copyOf(l[0]), copyOf(l[1]), copyOf(l[2])}
			for _, l := range [][]api.Query{l, l[1:], l[1:2], l[2:], {l[1], l[1]}} {
				q := made(l...)
				want := copyOf(q)
				spoil(&q)
				if again := made(l...); !same(again, want) {
					t.Fatalf("%v, not %v", again, want)
				}
			}
			if !slices.EqualFunc(l, before, same) {
				t.Fatal("changed")
			}
		}
	}
	grams := g("bcd", "abc")
	q := Grams(grams...)
	spoil(&q)
	if !slices.Equal(grams, g("bcd", "abc")) {
		t.Error(grams)
	}
	sub := or(g("abc", "bcd"))
	both := and(nil, and(nil, sub), sub)
	q = And(both, both)
	spoil(&q.Subs[0])
	if Text(sub) != "(616263|626364)" || Text(q.Subs[1]) == "?" {
		t.Error("shared")
	}
}

// spoil overwrites all of a query.
func spoil(q *api.Query) {
	for i := range q.Grams {
		q.Grams[i] = "?"
	}
	for i := range q.Subs {
		spoil(&q.Subs[i])
	}
	*q = api.Query{}
}

// P16.1: things that are gone through are left where a loop ends.
func TestThingsAreLeft(t *testing.T) {
	for _, q := range []api.Query{or(g("abc", "bcd")), or(nil, and(nil), and(nil))} {
		many := 0
		for range things(&q) {
			many++
			break
		}
		if many != 1 {
			t.Errorf("%d", many)
		}
	}
}
