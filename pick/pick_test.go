package pick

import (
	"bytes"
	"fmt"
	"math/rand"
	"slices"
	"testing"

	"mudlark/api"
	"mudlark/chance"
	"mudlark/derive"
	"mudlark/gram"
	"mudlark/query"
	"mudlark/shard"
	"mudlark/span"
)

// shardOf is a shard of files of some bytes.
func shardOf(t *testing.T, bodies ...[]byte) *shard.Shard {
	t.Helper()
	var files []api.File
	for i, b := range bodies {
		files = append(files, api.File{Path: fmt.Sprintf("%03d", i), Bytes: b})
	}
	b, e := shard.Make(files...)
	s, f := shard.Open(b)
	if e != api.OK || f != api.OK {
		t.Fatal(e, f)
	}
	return s
}

// plainRuns is the document's words of P24.1 and P24.2.
func plainRuns(bodies [][]byte, q api.Query, runs ...string) []int {
	var out []int
	for i, b := range bodies {
		ok := query.Sat(q, gram.Grams(b))
		for _, run := range runs {
			ok = ok && (len(run) < 3 || bytes.Contains(b, []byte(run)))
		}
		if ok {
			out = append(out, i)
		}
	}
	return out
}

// check holds what is picked against the plain words.
func check(t *testing.T, s *shard.Shard, bodies [][]byte, q api.Query, runs ...string) int {
	t.Helper()
	want := plainRuns(bodies, q)
	if got := Candidates(s, q); !slices.Equal(got, want) {
		t.Fatalf("%q, %s: %v, not %v", bodies, query.Text(q), got, want)
	}
	c := Docs(s, q)
	if first, ok := c.Now(); ok != (len(want) > 0) || ok && first != want[0] {
		t.Fatalf("%q, %s: at %d, %v", bodies, query.Text(q), first, ok)
	}
	if got := c.Take(1000); !slices.Equal(got, want) {
		t.Fatalf("%q, %s: %v, not %v", bodies, query.Text(q), got, want)
	}
	want = plainRuns(bodies, q, runs...)
	if got := Runs(s, q, runs...); !slices.Equal(got, want) {
		t.Fatalf("%q, %s, %q: %v, not %v", bodies, query.Text(q), runs, got, want)
	}
	return len(want)
}

// P24.1: the chapter's example, and queries of each kind.
func TestCandidates(t *testing.T) {
	bodies := [][]byte{[]byte("abcd"), []byte("bcde"), nil, []byte("xabcd"), []byte("ab")}
	s := shardOf(t, bodies...)
	abc, bcd, cde := query.Grams("abc"), query.Grams("bcd"), query.Grams("cde")
	every, no := api.Query{Kind: api.QueryAll}, api.Query{Kind: api.QueryNone}
	and := func(l ...api.Query) api.Query { return api.Query{Kind: api.QueryAnd, Subs: l} }
	or := func(l ...api.Query) api.Query { return api.Query{Kind: api.QueryOr, Subs: l} }
	for i, l := range []struct {
		q    api.Query
		want []int
	}{
		{query.Or(abc, cde), []int{0, 1, 3}}, {bcd, []int{0, 1, 3}}, {query.And(abc, bcd), []int{0, 3}}, {every, []int{0, 1, 2, 3, 4}}, {no, nil}, {query.Grams("xxx"), nil},
		{query.And(bcd, query.Or(cde, query.Grams("xab"))), []int{1, 3}}, {query.Or(query.And(bcd, cde), query.And(abc, query.Grams("xab"))), []int{1, 3}},
		{api.Query{}, nil}, {api.Query{Kind: 5}, nil}, {api.Query{Kind: -1, Grams: []string{"abc"}}, nil}, {api.Query{Kind: 5, Subs: []api.Query{every}}, nil}, {api.Query{Kind: api.QueryAll, Grams: []string{"xxx"}}, []int{0, 1, 2, 3, 4}}, {api.Query{Kind: api.QueryNone, Grams: []string{"abc"}}, nil},
		{and(), []int{0, 1, 2, 3, 4}}, {or(), nil}, {and(every, abc), []int{0, 3}}, {and(no), nil}, {or(no, cde), []int{1}}, {or(every), []int{0, 1, 2, 3, 4}}, {and(and()), []int{0, 1, 2, 3, 4}}, {and(or()), nil}, {or(and(), abc), []int{0, 1, 2, 3, 4}}, {and(api.Query{Kind: 9}), nil},
		{api.Query{Kind: api.QueryAnd, Grams: []string{"abc", "ab"}}, nil}, {api.Query{Kind: api.QueryOr, Grams: []string{"abc", "ab", ""}}, []int{0, 3}}, {api.Query{Kind: api.QueryAnd, Grams: []string{"bcd", "abc", "abc"}}, []int{0, 3}},
	} {
		if got := Candidates(s, l.q); !slices.Equal(got, l.want) {
			t.Errorf("%d: %v", i, got)
		}
		check(t, s, bodies, l.q)
	}
}

// P24.2: runs of three bytes and more, and fewer.
func TestRuns(t *testing.T) {
	bodies := [][]byte{[]byte("abcd"), []byte("abc bcd"), []byte("bcdabc"), nil}
	s := shardOf(t, bodies...)
	for i, l := range []struct {
		runs []string
		want []int
	}{
		{nil, []int{0, 1, 2}}, {[]string{"abcd"}, []int{0}}, {[]string{"abc"}, []int{0, 1, 2}}, {[]string{"abc", "bcda"}, []int{2}}, {[]string{"abcd", "bcda"}, nil}, {[]string{"", "xy", "c "}, []int{0, 1, 2}}, {[]string{"xy", "c b"}, []int{1}}, {[]string{"abcdabc"}, nil},
	} {
		if got := Runs(s, query.Grams("abc"), l.runs...); !slices.Equal(got, l.want) {
			t.Errorf("%d: %v", i, got)
		}
		check(t, s, bodies, query.Grams("bcd"), l.runs...)
	}
	if got := Runs(s, api.Query{Kind: api.QueryAll}, ""); !slices.Equal(got, []int{0, 1, 2, 3}) {
		t.Error(got)
	}
}

// someQuery is a query of chance, right or not.
func someQuery(r *rand.Rand, deep int) api.Query {
	q := api.Query{Kind: api.QueryKind(3 + r.Intn(2))}
	if r.Intn(12) == 0 {
		q.Kind = api.QueryKind(r.Intn(7) - 1)
	}
	for range r.Intn(3) {
		q.Grams = append(q.Grams, []string{"aaa", "aab", "aba", "baa", "bab", "bb", "bbb"}[r.Intn(7)])
	}
	for range r.Intn(1 + deep) {
		q.Subs = append(q.Subs, someQuery(r, deep-1))
	}
	return q
}

// P24.1, P24.2, R4: shards and queries of chance, alike each time.
func TestChance(t *testing.T) {
	r := rand.New(rand.NewSource(241))
	many := 0
	for range 600 {
		var bodies [][]byte
		for range r.Intn(7) {
			b := make([]byte, r.Intn(9))
			for i := range b {
				b[i] = "aab"[r.Intn(3)]
			}
			bodies = append(bodies, b)
		}
		s := shardOf(t, bodies...)
		for range 20 {
			q := someQuery(r, 3)
			check(t, s, bodies, q, "aab", "ab", "abba"[:r.Intn(5)])
			many += check(t, s, bodies, q)
		}
	}
	if many < 5000 {
		t.Error(many)
	}
}

// P24.3, P2: each document in which a regex matches is a candidate of its query.
func TestWhatFollows(t *testing.T) {
	r := rand.New(rand.NewSource(242))
	draw := chance.Draw(r.Intn)
	matched := 0
	for range 800 {
		bodies := [][]byte{draw.Text(30), draw.Text(30), draw.Text(60), draw.Text(9)}
		s := shardOf(t, bodies...)
		for range 4 {
			p, _, e := derive.Regex(draw.Regex(2)+[]string{"", "ab", "a[ab]b", "bb.?a"}[r.Intn(4)], api.Flags{})
			if e != api.OK {
				continue
			}
			got := Candidates(s, p.Query)
			for i, b := range bodies {
				if !span.Find(p.Tree, b) {
					continue
				}
				if matched++; !slices.Contains(got, i) {
					t.Fatalf("%q: %d, %v", bodies, i, p.Tree)
				}
			}
		}
	}
	if matched < 1000 {
		t.Error(matched)
	}
}

// P24.1: of no shard there are none.
func TestNone(t *testing.T) {
	for _, s := range []*shard.Shard{nil, {}} {
		for _, q := range []api.Query{{}, {Kind: api.QueryAll}, {Kind: api.QueryAnd}, query.Grams("abc")} {
			c := Docs(s, q)
			if _, ok := c.Now(); c == nil || ok || Candidates(s, q) != nil || Runs(s, q, "", "abc") != nil {
				t.Error(q)
			}
		}
	}
}

// R1: very deep queries, and very wide ones.
func TestGreat(t *testing.T) {
	s := shardOf(t, []byte("aaab"), []byte("aabb"), []byte("aaa"))
	q := query.Grams("aaa")
	for range 1 << 17 {
		q = api.Query{Kind: api.QueryAnd, Subs: []api.Query{{Kind: api.QueryOr, Grams: []string{"bbb"}, Subs: []api.Query{q}}}}
	}
	if got := Candidates(s, q); !slices.Equal(got, []int{0, 2}) {
		t.Error(got)
	}
	q = api.Query{Kind: api.QueryAnd, Grams: slices.Repeat([]string{"aab"}, 20000), Subs: slices.Repeat([]api.Query{query.Grams("aaa")}, 20000)}
	if got := Candidates(s, q); !slices.Equal(got, []int{0}) {
		t.Error(got)
	}
}

// R3: queries stay as they are, and so do shards.
func TestMemory(t *testing.T) {
	s := shardOf(t, []byte("aaab"), []byte("aabb"))
	q := query.Or(query.Grams("abb"), query.Grams("aaa", "aab"))
	clear(Candidates(s, q))
	Docs(s, q).Next()
	if got := Candidates(s, q); !slices.Equal(got, []int{0, 1}) || query.Text(q) != "(616262|(616161&616162))" {
		t.Error(got)
	}
}
