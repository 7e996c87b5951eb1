package gram

import (
	"bytes"
	"math"
	"math/rand"
	"slices"
	"strings"
	"testing"

	"mudlark/api"
)

// plainAt is the document's words of the gram at a place.
func plainAt(b []byte, i int) (string, bool) {
	for at := 0; at < len(b)-2; at++ {
		if at == i {
			return string([]byte{b[at], b[at+1], b[at+2]}), true
		}
	}
	return "", false
}

// plainRun is the grams as they stand.
func plainRun(b []byte) []string {
	var out []string
	for i := range b {
		if g, ok := plainAt(b, i); ok {
			out = append(out, g)
		}
	}
	return out
}

// plainGrams is all grams, each once, rising.
func plainGrams(b []byte) []string {
	out := plainRun(b)
	slices.Sort(out)
	return slices.Compact(out)
}

// plainPlaces is the places of each gram.
func plainPlaces(b []byte) []api.Posting {
	var out []api.Posting
	for _, g := range plainGrams(b) {
		posting := api.Posting{Gram: g}
		for i, other := range plainRun(b) {
			if other == g {
				posting.Places = append(posting.Places, api.Place{Doc: 0, At: i})
			}
		}
		out = append(out, posting)
	}
	return out
}

// samePostings says whether two lists of postings are the same.
func samePostings(a, b []api.Posting) bool {
	return slices.EqualFunc(a, b, func(x, y api.Posting) bool {
		return x.Gram == y.Gram && slices.Equal(x.Places, y.Places)
	})
}

// some is some bytes of a few kinds, so that grams stand more than once.
func some(r *rand.Rand, most int) []byte {
	b := make([]byte, r.Intn(most+1))
	kinds := 1 + r.Intn(1<<r.Intn(9))
	for i := range b {
		b[i] = byte(r.Intn(kinds))
		if r.Intn(2) == 0 {
			b[i] = ^b[i]
		}
	}
	return b
}

// short goes through all rows of few bytes, of four kinds.
func short(yield func([]byte) bool) {
	const kinds = "a\x00\xff\n"
	for size := range 7 {
		b := make([]byte, size)
		for code := range 1 << (2 * size) {
			for i := range b {
				b[i] = kinds[code>>(2*i)&3]
			}
			if !yield(b) {
				return
			}
		}
	}
}

// P7.1 to P7.4, and the examples of the chapter and of the whole document.
func TestKnown(t *testing.T) {
	for _, c := range []struct {
		text   string
		run    []string
		grams  []string
		places [][]int
	}{
		{"", nil, nil, nil},
		{"a", nil, nil, nil},
		{"ab", nil, nil, nil},
		{"abc", []string{"abc"}, []string{"abc"}, [][]int{{0}}},
		{"abcab", []string{"abc", "bca", "cab"}, []string{"abc", "bca", "cab"}, [][]int{{0}, {1}, {2}}},
		{"abab", []string{"aba", "bab"}, []string{"aba", "bab"}, [][]int{{0}, {1}}},
		{"aaaa", []string{"aaa", "aaa"}, []string{"aaa"}, [][]int{{0, 1}}},
		{"babab", []string{"bab", "aba", "bab"}, []string{"aba", "bab"}, [][]int{{1}, {0, 2}}},
		{"\xff\x00\x80a", []string{"\xff\x00\x80", "\x00\x80a"}, []string{"\x00\x80a", "\xff\x00\x80"}, [][]int{{1}, {0}}},
		{"\x7f\x7f\x7f\x80\x80", []string{"\x7f\x7f\x7f", "\x7f\x7f\x80", "\x7f\x80\x80"}, []string{"\x7f\x7f\x7f", "\x7f\x7f\x80", "\x7f\x80\x80"}, [][]int{{0}, {1}, {2}}},
		{"aéa", []string{"a\xc3\xa9", "\xc3\xa9a"}, []string{"a\xc3\xa9", "\xc3\xa9a"}, [][]int{{0}, {1}}},
	} {
		b := []byte(c.text)
		if got := Run(c.text); !slices.Equal(got, c.run) {
			t.Errorf("Run(%q) = %q", c.text, got)
		}
		if got := Grams(b); !slices.Equal(got, c.grams) {
			t.Errorf("Grams(%q) = %q", c.text, got)
		}
		var want []api.Posting
		for i, g := range c.grams {
			posting := api.Posting{Gram: g}
			for _, at := range c.places[i] {
				posting.Places = append(posting.Places, api.Place{At: at})
			}
			want = append(want, posting)
		}
		if got := Places(b); !samePostings(got, want) {
			t.Errorf("Places(%q) = %v", c.text, got)
		}
	}
}

// P7.1: places at which there is a gram, and such at which there is none.
func TestAt(t *testing.T) {
	for size := range 6 {
		b := []byte("abcdef")[:size]
		for _, i := range []int{math.MinInt, math.MinInt + 1, -4, -3, -2, -1, 0, 1, 2, 3, 4, 5, 6, 7, math.MaxInt - 2, math.MaxInt - 1, math.MaxInt} {
			got, ok := At(b, i)
			if want, there := plainAt(b, i); got != want || ok != there {
				t.Errorf("At(%q, %d) = %q, %v", b, i, got, ok)
			}
		}
	}
	if got, ok := At(nil, 0); got != "" || ok {
		t.Errorf("At(nil, 0) = %q, %v", got, ok)
	}
	if got, ok := At([]byte("abcd")[:2], 0); got != "" || ok {
		t.Errorf("behind the end: %q, %v", got, ok)
	}
}

// P7.1 to P7.4: all rows of few bytes.
func TestShort(t *testing.T) {
	for b := range short {
		for i := -1; i <= len(b); i++ {
			got, ok := At(b, i)
			if want, there := plainAt(b, i); got != want || ok != there {
				t.Fatalf("At(%q, %d) = %q, %v", b, i, got, ok)
			}
		}
		asPlain(t, b)
	}
}

// asPlain holds what is told of bytes against the document's words.
func asPlain(t *testing.T, b []byte) {
	t.Helper()
	if got, want := Run(string(b)), plainRun(b); !slices.Equal(got, want) {
		t.Fatalf("Run(%q) = %q", b, got)
	}
	if got, want := Grams(b), plainGrams(b); !slices.Equal(got, want) {
		t.Fatalf("Grams(%q) = %q", b, got)
	}
	if got, want := Places(b), plainPlaces(b); !samePostings(got, want) {
		t.Fatalf("Places(%q) = %v", b, got)
	}
}

// P7.2 to P7.4: longer rows, of few kinds of bytes and of many.
func TestSome(t *testing.T) {
	r := rand.New(rand.NewSource(1))
	for range 600 {
		asPlain(t, some(r, 150))
	}
}

// P7.5: a gram is one of Grams just if it stands somewhere; the places of all together are all places, each once.
func TestAllPlaces(t *testing.T) {
	r := rand.New(rand.NewSource(2))
	for range 40 {
		b := some(r, 3000)
		seen := map[int]bool{}
		var grams []string
		for _, posting := range Places(b) {
			grams = append(grams, posting.Gram)
			for _, place := range posting.Places {
				if g, ok := At(b, place.At); !ok || g != posting.Gram || place.Doc != 0 || seen[place.At] {
					t.Fatalf("%q at %v", posting.Gram, place)
				}
				seen[place.At] = true
			}
		}
		if len(seen) != max(0, len(b)-2) || !slices.Equal(grams, Grams(b)) || !slices.IsSorted(grams) {
			t.Fatalf("%d places in %d bytes", len(seen), len(b))
		}
	}
}

// P7.5: where a text of 3 bytes and more stands, just there its Run does, one gram behind the other.
func TestRunsStandWhereTextsDo(t *testing.T) {
	r := rand.New(rand.NewSource(3))
	found := 0
	for range 3000 {
		b := some(r, 40)
		s := some(r, 6)
		if at := r.Intn(len(b) + 1); r.Intn(2) == 0 {
			s = b[at:min(len(b), at+r.Intn(7))]
		}
		for i := range len(b) + 1 {
			run := true
			for k, g := range Run(string(s)) {
				got, ok := At(b, i+k)
				run = run && ok && got == g
			}
			stands := bytes.HasPrefix(b[i:], s)
			if stands && !run || run && !stands && len(s) >= 3 {
				t.Fatalf("%q at %d of %q", s, i, b)
			}
			if stands && len(s) >= 3 {
				found++
			}
		}
	}
	if found < 100 {
		t.Errorf("only %d were found", found)
	}
}

// A file of the greatest size, of one gram and of many.
func TestGreat(t *testing.T) {
	const size = 1 << 20
	one := Places([]byte(strings.Repeat("x", size)))
	if len(one) != 1 || one[0].Gram != "xxx" || len(one[0].Places) != size-2 || one[0].Places[size-3].At != size-3 {
		t.Errorf("%d grams", len(one))
	}
	b := make([]byte, size)
	rand.New(rand.NewSource(4)).Read(b)
	many, grams, count := Places(b), Grams(b), 0
	for i, posting := range many {
		count += len(posting.Places)
		if posting.Gram != grams[i] {
			t.Fatalf("the gram %d: %q, %q", i, posting.Gram, grams[i])
		}
	}
	if count != size-2 || len(many) != len(grams) || len(Run(string(b))) != size-2 {
		t.Errorf("%d places of %d grams", count, len(many))
	}
}

// R3: what is handed in stays as it is; what is handed out is new memory, each list's of its own.
func TestMemory(t *testing.T) {
	b := []byte("ababab")
	g, _ := At(b, 0)
	grams, places := Grams(b), Places(b)
	if string(b) != "ababab" {
		t.Errorf("an argument was changed: %q", b)
	}
	clear(b)
	if g != "aba" || !slices.Equal(grams, []string{"aba", "bab"}) || places[1].Gram != "bab" {
		t.Error("what was handed out shares memory with an argument")
	}
	places[0].Places = append(places[0].Places, api.Place{At: 9}, api.Place{At: 9}, api.Place{At: 9})
	places[0].Places[0].At = 8
	if !slices.Equal(places[1].Places, []api.Place{{At: 1}, {At: 3}}) {
		t.Errorf("lists share memory: %v", places[1].Places)
	}
}

// R4: one thing is answered alike each time, whatever a map's order.
func TestAlike(t *testing.T) {
	b := some(rand.New(rand.NewSource(5)), 500)
	grams, places := Grams(b), Places(b)
	for range 20 {
		if !slices.Equal(Grams(b), grams) || !samePostings(Places(b), places) {
			t.Fatal("another answer")
		}
	}
}

// Ways: grams are gone through as far as one likes, and again.
func TestGramsAreLeft(t *testing.T) {
	grams := gramsOf([]byte("abcde"))
	for many := range 5 {
		var got []string
		for at, g := range grams {
			if at == many {
				break
			}
			got = append(got, g.text())
		}
		if want := []string{"abc", "bcd", "cde"}; !slices.Equal(got, want[:min(many, len(want))]) {
			t.Errorf("the first %d: %q", many, got)
		}
	}
}
