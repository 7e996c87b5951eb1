package seek

import (
	"bytes"
	"math/rand"
	"slices"
	"strings"
	"testing"

	"mudlark/api"
	"mudlark/chance"
	"mudlark/derive"
	"mudlark/gram"
	"mudlark/hit"
	"mudlark/lang"
	"mudlark/query"
	"mudlark/span"
	"mudlark/store"
	"mudlark/syntax"
	"mudlark/vfs"
)

func file(path, text string) api.File { return api.File{Path: path, Bytes: []byte(text)} }

// stored is a store of batches of files, those of no bytes being taken.
func stored(t *testing.T, batches ...[]api.File) (*store.Store, *vfs.Disk) {
	t.Helper()
	d, _ := vfs.New(1 << 20)
	s, e := store.Open(d)
	for _, l := range batches {
		for _, f := range l {
			if len(f.Bytes) > 0 {
				e = max(e, s.Put(f))
			} else {
				e = max(e, s.Take(f.Path))
			}
		}
		e = max(e, s.Commit())
	}
	if e != api.OK {
		t.Fatal(e)
	}
	return s, d
}

// plainFits is the document's words of a file that fits.
func plainFits(a api.Ask, path string) bool {
	ok := len(a.Langs) == 0
	for _, l := range a.Langs {
		ok = ok || l == lang.Of(path)
	}
	n, _, _, _ := syntax.Parse(a.Path, api.Flags{})
	return ok && (a.Path == "" || span.Find(n, []byte(path)))
}

// plainAnswer is the document's words of the answer of files, by a right ask.
func plainAnswer(files []api.File, a api.Ask) (out api.Answer) {
	p, _, _ := derive.Regex(a.Regex, a.Flags)
	for _, f := range files {
		if plainFits(a, f.Path) {
			out.Hits = append(out.Hits, hit.Of(p.Prog, f, len(f.Bytes)+1)...)
		}
	}
	if len(out.Hits) > a.Cap {
		out.Hits, out.Cut = out.Hits[:a.Cap], true
	}
	return out
}

func sameAnswer(a, b api.Answer) bool { return a.Cut == b.Cut && slices.Equal(a.Hits, b.Hits) }

// check holds what a store and its corpus tell by an ask that is right against the plain words.
func check(t *testing.T, s *store.Store, a api.Ask) api.Answer {
	t.Helper()
	files, _ := s.Corpus()
	want := plainAnswer(files, a)
	if got, e := Model(files, a); !sameAnswer(got, want) || e != api.OK {
		t.Fatalf("%v, %v: %v, %d, not %v", files, a, got, e, want)
	}
	got, e := Search(s, a)
	if !sameAnswer(got, want) || e != api.OK {
		t.Fatalf("%v, %v: searched %v, %d, not %v", files, a, got, e, want)
	}
	p, _, _ := derive.Regex(a.Regex, a.Flags)
	var paths []string
	for _, f := range files {
		if plainFits(a, f.Path) && query.Sat(p.Query, gram.Grams(f.Bytes)) {
			paths = append(paths, f.Path)
		}
	}
	docs, e := Docs(s, a)
	if !slices.Equal(docs, paths) || e != api.OK {
		t.Fatalf("%v, %v: documents %q, %d, not %q", files, a, docs, e, paths)
	}
	for _, h := range got.Hits {
		if !slices.Contains(docs, h.Path) {
			t.Fatalf("%v, %v: %v not of %q", files, a, h, docs)
		}
	}
	return got
}

// say is an answer as a text.
func say(a api.Answer) string {
	var out []string
	for _, h := range a.Hits {
		out = append(out, h.Path+":"+h.Text)
	}
	if a.Cut {
		out = append(out, "..")
	}
	return strings.Join(out, " ")
}

// P30.2, P30.3: the chapter's example, and others.
func TestExamples(t *testing.T) {
	s, _ := stored(t, []api.File{file("a.go", "x := y"), file("c.go", "gone"), file("d.py", "y")}, []api.File{file("b.md", "y"), file("c.go", ""), file("d.py", "z\nxy")})
	for i, l := range []struct {
		ask  api.Ask
		want string
	}{
		{api.Ask{Regex: "y", Cap: 9}, "a.go:x := y b.md:y d.py:xy"}, {api.Ask{Regex: "y", Cap: 9, Langs: []string{"go"}}, "a.go:x := y"}, {api.Ask{Regex: "y", Cap: 1}, "a.go:x := y .."}, {api.Ask{Regex: "y", Cap: 3}, "a.go:x := y b.md:y d.py:xy"}, {api.Ask{Regex: "y", Cap: 2}, "a.go:x := y b.md:y .."},
		{api.Ask{Regex: "y", Cap: 9, Langs: []string{"python", "go", ""}}, "a.go:x := y d.py:xy"}, {api.Ask{Regex: "y", Cap: 9, Langs: []string{""}}, ""}, {api.Ask{Regex: "y", Cap: 9, Langs: []string{"GO"}}, ""}, {api.Ask{Regex: "y", Cap: 9, Path: "\\.(md|py)$"}, "b.md:y d.py:xy"}, {api.Ask{Regex: "y", Cap: 9, Path: "D"}, ""}, {api.Ask{Regex: "Y", Cap: 9, Path: "d", Flags: api.Flags{Fold: true}}, "b.md:y d.py:xy"}, {api.Ask{Regex: "Y", Cap: 9, Path: "D", Flags: api.Flags{Fold: true}}, ""},
		{api.Ask{Regex: "gone", Cap: 9}, ""}, {api.Ask{Regex: "^y", Cap: 9}, "b.md:y"}, {api.Ask{Regex: "^x", Cap: 9}, "a.go:x := y"}, {api.Ask{Regex: "^x", Cap: 9, Flags: api.Flags{Lines: true}}, "a.go:x := y d.py:xy"}, {api.Ask{Regex: "z.x", Cap: 9, Flags: api.Flags{All: true}}, "d.py:z"}, {api.Ask{Regex: "", Cap: 10000, Langs: []string{"markdown"}}, "b.md:y b.md:y"}, {api.Ask{Regex: " := ", Cap: 1}, "a.go:x := y"},
	} {
		if got := say(check(t, s, l.ask)); got != l.want {
			t.Errorf("%d: %s", i, got)
		}
	}
	answer, _ := Search(s, api.Ask{Regex: "y", Cap: 9})
	if answer.Hits[2] != (api.Hit{Path: "d.py", Line: 2, Text: "xy", Start: 3, End: 4}) {
		t.Error(answer)
	}
}

// P30.1 to P30.3: each thing that may be wrong, the first one first.
func TestErrors(t *testing.T) {
	s, d := stored(t, []api.File{file("a", "1")})
	down, e := stored(t, []api.File{file("a", "1")})
	e.Crash()
	d.Flip("s.1", 100, 1)
	wrongFiles := []api.File{file("b", ""), file("a", "")}
	for i, l := range []struct {
		ask       api.Ask
		which, at int
		e         api.Errno
	}{
		{api.Ask{}, 1, 0, api.ErrArg}, {api.Ask{Cap: -1}, 1, 0, api.ErrArg}, {api.Ask{Cap: 10001}, 1, 0, api.ErrArg}, {api.Ask{Regex: "(", Path: "(", Cap: 0}, 1, 0, api.ErrArg},
		{api.Ask{Regex: "ab(", Path: "x(", Cap: 1}, 2, 2, api.ErrSyntax}, {api.Ask{Regex: "(?:a{50}){50}", Cap: 1}, 2, 0, api.ErrSize}, {api.Ask{Regex: strings.Repeat("a", 1001), Cap: 1}, 2, 0, api.ErrLong}, {api.Ask{Regex: "a{7,3}", Cap: 1}, 2, 1, api.ErrRepeat},
		{api.Ask{Regex: "ab", Path: "abc)", Cap: 10000}, 3, 3, api.ErrSyntax}, {api.Ask{Path: "a{101}", Cap: 1}, 3, 1, api.ErrRepeat},
		{api.Ask{Cap: 1}, 0, 0, api.OK}, {api.Ask{Regex: "a", Path: "a", Langs: []string{"", "x"}, Cap: 10000}, 0, 0, api.OK},
	} {
		if which, at, e := Check(l.ask); which != l.which || at != l.at || e != l.e {
			t.Errorf("%d: %d, %d, %d", i, which, at, e)
		}
		for name, x := range map[string]struct {
			search func() (api.Answer, api.Errno)
			else_  api.Errno // where the ask is right
		}{
			"model":        {func() (api.Answer, api.Errno) { return Model(nil, l.ask) }, api.OK},
			"wrong files":  {func() (api.Answer, api.Errno) { return Model(wrongFiles, l.ask) }, api.ErrArg},
			"corrupt":      {func() (api.Answer, api.Errno) { return Search(s, l.ask) }, api.ErrCorrupt},
			"down":         {func() (api.Answer, api.Errno) { return Search(down, l.ask) }, api.ErrDown},
			"corrupt docs": {func() (api.Answer, api.Errno) { l, e := Docs(s, l.ask); return api.Answer{Cut: l != nil}, e }, api.ErrCorrupt},
			"down docs":    {func() (api.Answer, api.Errno) { l, e := Docs(down, l.ask); return api.Answer{Cut: l != nil}, e }, api.ErrDown},
		} {
			want := l.e
			if want == api.OK {
				want = x.else_
			}
			if answer, e := x.search(); e != want || answer.Hits != nil || answer.Cut {
				t.Errorf("%d, %s: %v, %d", i, name, answer, e)
			}
		}
		for _, s := range []*store.Store{nil, {}} {
			answer, e := Search(s, l.ask)
			docs, f := Docs(s, l.ask)
			if answer.Hits != nil || answer.Cut || docs != nil || e != api.ErrNil || f != api.ErrNil {
				t.Errorf("%d: no store: %d, %d", i, e, f)
			}
		}
	}
}

// someFile is a file of chance.
func someFile(r *rand.Rand) api.File {
	draw := chance.Draw(r.Intn)
	paths := []string{"a.go", "b.go", "b.py", "c/d.md", "c/e", "f"}
	return api.File{Path: paths[r.Intn(len(paths))], Bytes: draw.Text(40)}
}

// someAsk is an ask of chance that is right.
func someAsk(r *rand.Rand, files []api.File) api.Ask {
	draw := chance.Draw(r.Intn)
	a := api.Ask{
		Regex: draw.Regex(2),
		Flags: api.Flags{Fold: r.Intn(3) == 0, Lines: r.Intn(2) == 0, All: r.Intn(2) == 0},
		Path:  []string{"", "", "b", "^[a-c]", "/|go$", "x"}[r.Intn(6)],
		Langs: [][]string{nil, nil, {"go"}, {"", "markdown"}, {"python", "java"}}[r.Intn(5)],
		Cap:   []int{1, 2, 5, 1000}[r.Intn(4)],
	}
	if _, _, e := Check(a); e != api.OK {
		a.Regex = "a"
	}
	if len(files) == 0 || r.Intn(2) == 0 {
		return a
	}
	if b := files[r.Intn(len(files))].Bytes; len(b) > 5 { // a part of a file, so that there are grams, and hits
		at := r.Intn(len(b) - 3)
		a.Regex = strings.NewReplacer("\\", "\\\\", "\n", "\\n").Replace(string(b[at:min(len(b), at+3+r.Intn(3))]))
	}
	return a
}

// P30.2 to P30.4, P1, P2, R4: stores and asks of chance: Search tells what Model does, alike each time; a greater Cap, the same first hits; corpora that are the same, however they came to be, the same answers.
func TestChance(t *testing.T) {
	r := rand.New(rand.NewSource(301))
	hits, cut, literals := 0, 0, 0
	for range 300 {
		var batches [][]api.File
		for range r.Intn(5) {
			var l []api.File
			for range 1 + r.Intn(4) {
				l = append(l, someFile(r))
			}
			batches = append(batches, l)
		}
		s, _ := stored(t, batches...)
		files, _ := s.Corpus()
		other, _ := stored(t, files)
		for range 12 {
			a := someAsk(r, files)
			got := check(t, s, a)
			check(t, s, a)
			if again := check(t, other, a); !sameAnswer(again, got) {
				t.Fatalf("%v, %v: %v, not %v", files, a, again, got)
			}
			hits += len(got.Hits)
			if got.Cut {
				cut++
			}
			a.Cap += 3
			if more, _ := Search(s, a); !slices.Equal(more.Hits[:min(len(more.Hits), len(got.Hits))], got.Hits) || len(more.Hits) < len(got.Hits) {
				t.Fatalf("%v, %v: %v", files, a, more)
			}
			p, _, _ := derive.Regex(a.Regex, a.Flags)
			if text, ok := derive.Literal(p.Tree); ok && len(text) >= 3 {
				literals++
				checkLiteral(t, s, a, text)
			}
		}
	}
	if hits < 3000 || cut < 300 || literals < 300 {
		t.Error(hits, cut, literals)
	}
}

// checkLiteral: where the regex is a literal, Docs are just the files that fit and have all of its trigrams.
func checkLiteral(t *testing.T, s *store.Store, a api.Ask, text string) {
	t.Helper()
	var want []string
	files, _ := s.Corpus()
	for _, f := range files {
		lacks := func(g string) bool { return !bytes.Contains(f.Bytes, []byte(g)) }
		if plainFits(a, f.Path) && !slices.ContainsFunc(gram.Run(text), lacks) {
			want = append(want, f.Path)
		}
	}
	if got, e := Docs(s, a); !slices.Equal(got, want) || e != api.OK {
		t.Fatalf("%v, %v: %q, not %q", files, a, got, want)
	}
}

// P30.2: the most hits that may be told, and one more.
func TestGreatestCap(t *testing.T) {
	for more, cut := range []bool{false, true} {
		files := []api.File{file("a", strings.Repeat("x\n", 9000)), file("b", strings.Repeat("x", 1000+more))}
		answer, e := Model(files, api.Ask{Regex: "x", Cap: 10000})
		s, _ := stored(t, files)
		again, f := Search(s, api.Ask{Regex: "x", Cap: 10000})
		if len(answer.Hits) != 10000 || answer.Cut != cut || e != api.OK || f != api.OK || !sameAnswer(again, answer) {
			t.Error(more, len(answer.Hits), answer.Cut, e)
		}
	}
}

// R3: what is handed in is not changed, what is handed out is new memory.
func TestMemory(t *testing.T) {
	files := []api.File{file("a.go", "xyz"), file("b.go", "xyz")}
	s, _ := stored(t, files)
	a := api.Ask{Regex: "xyz", Langs: []string{"go"}, Cap: 5}
	answer, _ := Model(files, a)
	clear(answer.Hits)
	answer, _ = Search(s, a)
	clear(answer.Hits)
	docs, _ := Docs(s, a)
	clear(docs)
	if got := say(check(t, s, a)); got != "a.go:xyz b.go:xyz" || string(files[0].Bytes) != "xyz" || a.Langs[0] != "go" {
		t.Error(got)
	}
}
