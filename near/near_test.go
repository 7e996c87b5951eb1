package near

import (
	"bytes"
	"math/rand"
	"slices"
	"strings"
	"testing"

	"mudlark/api"
	"mudlark/post"
)

// plainRow is a gram's places that are behind all ahead of them, of the first posting that has it.
func plainRow(l []api.Posting, gram string) []api.Place {
	var out []api.Place
	for _, p := range l {
		if p.Gram != gram {
			continue
		}
		for i, place := range p.Places {
			behind := func(ahead api.Place) bool {
				return place.Doc > ahead.Doc || place.Doc == ahead.Doc && place.At > ahead.At
			}
			ok := true
			for _, ahead := range p.Places[:i] {
				ok = ok && behind(ahead)
			}
			if ok {
				out = append(out, place)
			}
		}
		return out
	}
	return nil
}

// plainPlaces is the document's words of where a run may stand.
func plainPlaces(l []api.Posting, run string) []api.Place {
	var out []api.Place
	if len(run) < 3 {
		return nil
	}
	for _, p := range plainRow(l, run[:3]) {
		ok := true
		for i := range len(run) - 2 {
			ok = ok && slices.Contains(plainRow(l, run[i:i+3]), api.Place{Doc: p.Doc, At: p.At + i})
		}
		if ok {
			out = append(out, p)
		}
	}
	return out
}

// plainDocs is the documents of some places, each once, rising.
func plainDocs(l []api.Place) []int {
	var out []int
	for _, p := range l {
		if !slices.Contains(out, p.Doc) {
			out = append(out, p.Doc)
		}
	}
	slices.Sort(out)
	return out
}

// check holds what is told of postings and runs against the plain words.
func check(t *testing.T, l []api.Posting, runs ...string) (places int) {
	t.Helper()
	var all []int
	for i, run := range runs {
		want := plainPlaces(l, run)
		if got := Places(l, run); !slices.Equal(got, want) {
			t.Fatalf("%v, %q: %v, not %v", l, run, got, want)
		}
		docs := plainDocs(want)
		if got := Docs(l, run); !slices.Equal(got, docs) {
			t.Fatalf("%v, %q: documents %v, not %v", l, run, got, docs)
		}
		if places += len(want); i == 0 {
			all = docs
		}
		all = slices.DeleteFunc(all, func(doc int) bool { return !slices.Contains(docs, doc) })
	}
	if got := All(l, runs...); !slices.Equal(got, all) {
		t.Fatalf("%v, %q: all %v, not %v", l, runs, got, all)
	}
	return places
}

func at(doc int, l ...int) (places []api.Place) {
	for _, n := range l {
		places = append(places, api.Place{Doc: doc, At: n})
	}
	return places
}

// P21.1, P21.2: the chapter's example, and others.
func TestExamples(t *testing.T) {
	l := post.Make([]byte("ababc"), nil, []byte("xabc\nababab"))
	for run, want := range map[string][]api.Place{
		"abc": append(at(0, 2), at(2, 1)...), "abab": append(at(0, 0), at(2, 5, 7)...), "baba": at(2, 6), "babc": at(0, 1), "abcb": nil, "ababc": at(0, 0), "ab": nil, "": nil, "xyz": nil, "bc\na": at(2, 2), "ababab": at(2, 5), "abababa": nil,
	} {
		if got := Places(l, run); !slices.Equal(got, want) {
			t.Errorf("%q: %v", run, got)
		}
		check(t, l, run)
	}
	for i, x := range []struct {
		runs []string
		want []int
	}{
		{nil, nil}, {[]string{"abc"}, []int{0, 2}}, {[]string{"abc", "xab"}, []int{2}}, {[]string{"abc", "babc", "xab"}, nil}, {[]string{"abc", "ab"}, nil}, {[]string{"abc", ""}, nil}, {[]string{"abc", "abc", "aba"}, []int{0, 2}},
	} {
		if got := All(l, x.runs...); !slices.Equal(got, x.want) {
			t.Errorf("%d: %v", i, got)
		}
		check(t, l, x.runs...)
	}
	if got := Find(l, "abc"); !slices.Equal(got, append(at(0, 2), at(2, 1)...)) || Find(l, "abx") != nil || Find(l, "ab") != nil || Find(nil, "abc") != nil {
		t.Errorf("%v", got)
	}
}

// P21.1: postings that are not such: Find tells them as they stand, all else as if they rose.
func TestWhateverPostings(t *testing.T) {
	places := slices.Concat(at(1, 5, 3, 5, 6), at(0, 9), at(1, 8, 7), at(-3, 1), at(2, -4, -5))
	l := []api.Posting{{Gram: "bcd", Places: at(1, 6)}, {Gram: "abc", Places: places}, {Gram: "abc", Places: at(0, 1)}, {Gram: "ab", Places: at(0, 1)}, {Gram: "", Places: at(0, 2)}}
	if got := Find(l, "abc"); !slices.Equal(got, places) {
		t.Errorf("%v", got)
	}
	if got := Places(l, "abc"); !slices.Equal(got, slices.Concat(at(1, 5, 6, 8), at(2, -4))) {
		t.Errorf("%v", got)
	}
	if got := Places(l, "abcd"); !slices.Equal(got, at(1, 5)) {
		t.Errorf("%v", got)
	}
	if got := Find(l, ""); !slices.Equal(got, at(0, 2)) || Places(l, "ab") != nil {
		t.Errorf("%v", got)
	}
	far := []api.Posting{{Gram: "aaa", Places: at(0, -1<<62, -1<<62+1, -1, 0, 1<<62-1, 1<<62)}}
	if got := Places(far, "aaaa"); !slices.Equal(got, at(0, -1<<62, -1, 1<<62-1)) {
		t.Errorf("%v", got)
	}
	r := rand.New(rand.NewSource(211))
	many := 0
	for range 6000 {
		var l []api.Posting
		for range r.Intn(7) {
			p := api.Posting{Gram: []string{"aaa", "aab", "aba", "bab", "abb", "ab", "baa"}[r.Intn(7)]}
			for range r.Intn(30) {
				p.Places = append(p.Places, api.Place{Doc: r.Intn(3) - 1, At: r.Intn(12) - 3})
			}
			if r.Intn(2) == 0 {
				slices.SortFunc(p.Places, order)
			}
			l = append(l, p)
		}
		many += check(t, l, []string{"aaa", "aaab", "abab", "aab", "ab", "baa", "aaaa"}[r.Intn(4):][:r.Intn(4)]...)
	}
	if many < 3000 {
		t.Error(many)
	}
}

// P21.3, R4: by postings of documents a run may stand just where it stands; told alike each time.
func TestWhereItStands(t *testing.T) {
	r := rand.New(rand.NewSource(212))
	some := func(most int) []byte {
		b := make([]byte, r.Intn(most+1))
		for i := range b {
			b[i] = "aab\n\xff"[r.Intn(2+r.Intn(4))]
		}
		return b
	}
	many := 0
	for range 4000 {
		var docs [][]byte
		for range r.Intn(5) {
			docs = append(docs, some(40))
		}
		l := post.Make(docs...)
		run := string(some(7))
		var want []api.Place
		for doc, b := range docs {
			for i := 0; i+len(run) <= len(b) && len(run) > 2; i++ {
				if bytes.HasPrefix(b[i:], []byte(run)) {
					want = append(want, api.Place{Doc: doc, At: i})
				}
			}
		}
		if got := Places(l, run); !slices.Equal(got, want) {
			t.Fatalf("%q, %q: %v, not %v", docs, run, got, want)
		}
		check(t, l, run, string(some(5)))
		check(t, l, run, string(some(5)), run)
		many += len(want)
	}
	if many < 2000 {
		t.Error(many)
	}
}

// R1: a long run in a long document.
func TestLong(t *testing.T) {
	l := post.Make([]byte(strings.Repeat("a", 200000)), []byte(strings.Repeat("ab", 100000)))
	if got := Places(l, strings.Repeat("a", 50)); len(got) != 199951 {
		t.Error(len(got))
	}
	if got := Docs(l, strings.Repeat("ab", 25)+"a"); !slices.Equal(got, []int{1}) {
		t.Error(got)
	}
}

// R3: postings stay as they are, and what is handed out is new memory.
func TestMemory(t *testing.T) {
	l := post.Make([]byte("ababab"), []byte("bab"))
	clear(Find(l, "aba"))
	clear(Places(l, "aba"))
	clear(Places(l, "abab"))
	if want := post.Make([]byte("ababab"), []byte("bab")); !slices.EqualFunc(l, want, func(a, b api.Posting) bool {
		return a.Gram == b.Gram && slices.Equal(a.Places, b.Places)
	}) {
		t.Errorf("%v", l)
	}
}

// What is gone through is left where a loop ends.
func TestPlacesAreLeft(t *testing.T) {
	l := post.Make([]byte("ababab"))
	for p := range places(lookersOf(l, "aba")...) {
		if p != (api.Place{}) {
			t.Error(p)
		}
		break
	}
}
