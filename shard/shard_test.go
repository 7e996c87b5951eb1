package shard

import (
	"bytes"
	"fmt"
	"math/rand"
	"reflect"
	"slices"
	"testing"

	"mudlark/api"
	"mudlark/doc"
	"mudlark/frame"
	"mudlark/gram"
	"mudlark/post"
	"mudlark/text"
	"mudlark/wire"
)

// plainParts is the document's words of the parts of a shard's file.
func plainParts(files []api.File) []api.Part {
	docs, _ := doc.Of(files...)
	table, _ := doc.Put(docs)
	var all []byte
	var lines wire.Writer
	var bodies [][]byte
	for _, f := range files {
		all = append(all, f.Bytes...)
		lines.Rising(text.Lines(f.Bytes)...)
		bodies = append(bodies, f.Bytes)
	}
	postings, _ := post.Put(post.Make(bodies...))
	return []api.Part{{Tag: 1, Bytes: table}, {Tag: 2, Bytes: all}, {Tag: 3, Bytes: lines.Bytes()}, {Tag: 4, Bytes: postings}}
}

// sameFile says whether two files are.
func sameFile(a, b api.File) bool { return a.Path == b.Path && bytes.Equal(a.Bytes, b.Bytes) }

// check holds what is made of right files, and what is told of it, against the plain words.
func check(t *testing.T, files []api.File) []byte {
	t.Helper()
	b, e := Make(files...)
	if want, _ := frame.Put(plainParts(files)...); e != api.OK || !bytes.Equal(b, want) {
		t.Fatalf("%v: %v, %d", files, b, e)
	}
	s, e := Open(b)
	if e != api.OK || !slices.EqualFunc(s.Files(), files, sameFile) {
		t.Fatalf("%v: opened %v, %d", files, s.Files(), e)
	}
	if docs, _ := doc.Of(files...); !slices.Equal(s.Docs(), docs) {
		t.Fatalf("%v: %v", files, s.Docs())
	}
	var bodies [][]byte
	for i, f := range files {
		if !bytes.Equal(s.Bytes(i), f.Bytes) || !slices.Equal(s.Lines(i), text.Lines(f.Bytes)) {
			t.Fatalf("%v: %d: %q, %v", files, i, s.Bytes(i), s.Lines(i))
		}
		bodies = append(bodies, f.Bytes)
	}
	for _, p := range post.Make(bodies...) {
		if !slices.Equal(s.Places(p.Gram), p.Places) {
			t.Fatalf("%v: %q at %v", files, p.Gram, s.Places(p.Gram))
		}
	}
	for _, i := range []int{-1 << 63, -1, len(files), 1<<63 - 1} {
		if s.Bytes(i) != nil || s.Lines(i) != nil {
			t.Fatalf("%d", i)
		}
	}
	for _, g := range []string{"", "ab", "abab", "\x00zz", "zzz"} {
		if len(s.Places(g)) > 0 {
			t.Fatalf("%q at %v", g, s.Places(g))
		}
	}
	return b
}

// refused says whether bytes are no shard's.
func refused(b []byte) bool {
	s, e := Open(b)
	return s == nil && e == api.ErrCorrupt
}

func some() []api.File {
	return []api.File{{Path: "a.go", Bytes: []byte("abab\nc")}, {Path: "b", Bytes: nil}, {Path: "c/d.md", Bytes: []byte("xaba\n")}}
}

// P23.1 to P23.3: the chapter's example, and others.
func TestExamples(t *testing.T) {
	b := check(t, nil)
	parts, _ := frame.Get(b)
	if want := []api.Part{{Tag: 1, Bytes: []byte{0}}, {Tag: 2}, {Tag: 3}, {Tag: 4, Bytes: []byte{0}}}; !slices.EqualFunc(parts, want, func(a, b api.Part) bool {
		return a.Tag == b.Tag && bytes.Equal(a.Bytes, b.Bytes)
	}) {
		t.Errorf("%v", parts)
	}
	b = check(t, some())
	parts, _ = frame.Get(b)
	if string(parts[1].Bytes) != "abab\ncxaba\n" || string(parts[2].Bytes) != "\x02\x00\x04\x01\x00\x02\x00\x04" {
		t.Errorf("%q, %q", parts[1].Bytes, parts[2].Bytes)
	}
	s, _ := Open(b)
	if got := s.Places("aba"); !slices.Equal(got, []api.Place{{}, {Doc: 2, At: 1}}) {
		t.Errorf("%v", got)
	}
	if got := s.Docs()[2]; got.Lang != "markdown" || got.Size != 5 {
		t.Errorf("%v", got)
	}
}

// P23.1: files that are not right, and such as are too much.
func TestErrors(t *testing.T) {
	for i, l := range [][]api.File{{{}}, {{Path: "b"}, {Path: "a"}}, {{Path: "a"}, {Path: "a"}}, {{Path: "/a"}}, {{Path: "a", Bytes: make([]byte, 1<<20+1)}}} {
		if b, e := Make(l...); b != nil || e != api.ErrArg {
			t.Errorf("%d: %v, %d", i, b, e)
		}
	}
	long := make([]byte, 1<<20)
	var many, wrong []api.File
	for i := range 65 {
		many = append(many, api.File{Path: fmt.Sprintf("%02d", i), Bytes: long})
	}
	for _, l := range [][]api.File{many, many[:22]} {
		if b, e := Make(l...); b != nil || e != api.ErrLong {
			t.Errorf("%d: %d, %d", len(l), len(b), e)
		}
	}
	for range 4001 {
		wrong = append(wrong, many[0])
	}
	if b, e := Make(wrong...); b != nil || e != api.ErrArg {
		t.Errorf("wrong ones: %d, %d", len(b), e)
	}
	if b, e := Make(many[:17]...); e != api.OK || len(b) < 51<<20 {
		t.Errorf("17: %d, %d", len(b), e)
	}
}

// P23.2: each way in which parts may not be those of files.
func TestCorrupt(t *testing.T) {
	files := some()
	whole := func() []api.Part { return plainParts(files) }
	numbers := func(n ...int) []byte {
		var w wire.Writer
		w.Number(n...)
		return w.Bytes()
	}
	put := func(l []api.Posting) []byte {
		b, e := post.Put(l)
		if e != api.OK {
			t.Fatal(e)
		}
		return b
	}
	postings := func(change func(l []api.Posting) []api.Posting) []byte {
		return put(change(post.Make(files[0].Bytes, nil, files[2].Bytes)))
	}
	docs := func(change func(d *api.Doc)) []byte {
		l, _ := doc.Of(files...)
		change(&l[2])
		b, e := doc.Put(l)
		if e != api.OK {
			t.Fatal(e)
		}
		return b
	}
	for name, change := range map[string]func(p []api.Part) []api.Part{
		"no parts":       func(p []api.Part) []api.Part { return nil },
		"three":          func(p []api.Part) []api.Part { return p[:3] },
		"five":           func(p []api.Part) []api.Part { return append(p, api.Part{Tag: 5}) },
		"twice":          func(p []api.Part) []api.Part { return append(p, p[3]) },
		"another order":  func(p []api.Part) []api.Part { p[1], p[2] = p[2], p[1]; return p },
		"another tag":    func(p []api.Part) []api.Part { p[1].Tag = 3; return p },
		"no documents":   func(p []api.Part) []api.Part { p[0].Bytes = nil; return p },
		"another sum":    func(p []api.Part) []api.Part { p[0].Bytes = docs(func(d *api.Doc) { d.Sum++ }); return p },
		"another size":   func(p []api.Part) []api.Part { p[0].Bytes = docs(func(d *api.Doc) { d.Size-- }); return p },
		"a greater size": func(p []api.Part) []api.Part { p[0].Bytes = docs(func(d *api.Doc) { d.Size++ }); return p },
		"other bytes":    func(p []api.Part) []api.Part { p[1].Bytes[3] = 'x'; return p },
		"fewer bytes":    func(p []api.Part) []api.Part { p[1].Bytes = p[1].Bytes[1:]; return p },
		"no bytes":       func(p []api.Part) []api.Part { p[1].Bytes = nil; return p },
		"more bytes":     func(p []api.Part) []api.Part { p[1].Bytes = append(p[1].Bytes, 0); return p },
		"other lines":    func(p []api.Part) []api.Part { p[2].Bytes[2]++; return p },
		"no lines":       func(p []api.Part) []api.Part { p[2].Bytes = nil; return p },
		"more lines":     func(p []api.Part) []api.Part { p[2].Bytes = append(p[2].Bytes, numbers(1, 0)...); return p },
		"no postings":    func(p []api.Part) []api.Part { p[3].Bytes = put(nil); return p },
		"wrong postings": func(p []api.Part) []api.Part { p[3].Bytes = nil; return p },
		"more postings":  func(p []api.Part) []api.Part { p[3].Bytes = append(p[3].Bytes, 0); return p },
		"a posting fewer": func(p []api.Part) []api.Part {
			p[3].Bytes = postings(func(l []api.Posting) []api.Posting { return l[1:] })
			return p
		},
		"a posting more": func(p []api.Part) []api.Part {
			p[3].Bytes = postings(func(l []api.Posting) []api.Posting {
				return append(l, api.Posting{Gram: "zzz", Places: []api.Place{{}}})
			})
			return p
		},
		"a place fewer": func(p []api.Part) []api.Part {
			p[3].Bytes = postings(func(l []api.Posting) []api.Posting { l[1].Places = l[1].Places[1:]; return l })
			return p
		},
		"a place more": func(p []api.Part) []api.Part {
			p[3].Bytes = postings(func(l []api.Posting) []api.Posting {
				l[0].Places = append(l[0].Places, api.Place{Doc: 3})
				return l
			})
			return p
		},
		"a place at an end": func(p []api.Part) []api.Part {
			p[3].Bytes = postings(func(l []api.Posting) []api.Posting { l[0].Places[0] = api.Place{Doc: 2, At: 4}; return l })
			return p
		},
		"a place in no document": func(p []api.Part) []api.Part {
			p[3].Bytes = postings(func(l []api.Posting) []api.Posting { l[0].Places[0].Doc = 3; return l })
			return p
		},
		"a place elsewhere": func(p []api.Part) []api.Part {
			p[3].Bytes = postings(func(l []api.Posting) []api.Posting { l[0].Places[0].At++; return l })
			return p
		},
	} {
		parts := change(whole())
		if b, e := frame.Put(parts...); e != api.OK || !refused(b) {
			t.Errorf("%s: %d", name, e)
		}
	}
	if b, _ := frame.Put(whole()...); refused(b) || !refused(nil) || !refused(append(b, 0)) {
		t.Error("whole")
	}
}

// P23.4: files with a burst that turns something, cut ones, longer ones.
func TestDamage(t *testing.T) {
	b := check(t, some())
	for bit := range 8 * len(b) {
		for _, mask := range []uint32{1, 3, 0x80000001, 0xffffffff} {
			if burst := frame.Burst(b, bit, mask); !refused(burst) {
				t.Fatalf("%d, %x", bit, mask)
			}
		}
	}
	for n := range b {
		if !refused(b[:n]) {
			t.Fatal(n)
		}
	}
}

// P23.1 to P23.4, R4: files of chance.
func TestChance(t *testing.T) {
	r := rand.New(rand.NewSource(231))
	for range 800 {
		var files []api.File
		for i := range r.Intn(6) {
			b := make([]byte, r.Intn(2)*r.Intn(200))
			for j := range b {
				b[j] = "aab\n\x00\xff"[r.Intn(6)]
			}
			files = append(files, api.File{Path: fmt.Sprintf("d%d/%d.py", i, r.Intn(100)), Bytes: b})
		}
		check(t, files)
		if b := check(t, files); r.Intn(2) == 0 {
			bit, mask := r.Intn(8*len(b)), 1+2*r.Uint32()
			if !refused(frame.Burst(b, bit, mask)) || !refused(b[:r.Intn(len(b))]) {
				t.Fatal(files, bit, mask)
			}
		}
	}
	var many []api.File
	for i := range 4000 {
		many = append(many, api.File{Path: fmt.Sprintf("%04d", i), Bytes: []byte(fmt.Sprint(i*i, "\n", i))})
	}
	check(t, many)
	check(t, []api.File{{Path: "a", Bytes: bytes.Repeat([]byte("\n"), 1<<20)}, {Path: "b", Bytes: bytes.Repeat([]byte("ab"), 1<<19)}})
}

// R5: of no shard nothing is told.
func TestNone(t *testing.T) {
	for _, s := range []*Shard{nil, {}, new(Shard)} {
		if s.Files() != nil || s.Docs() != nil || s.Bytes(0) != nil || s.Lines(0) != nil || s.Places("abc") != nil || s.Places("") != nil {
			t.Error("none")
		}
	}
}

// R3: what is handed in is not changed and not kept, what is handed out is new memory.
func TestMemory(t *testing.T) {
	files := some()
	b, _ := Make(files...)
	s, _ := Open(b)
	want := slices.Clone(b)
	clear(b)
	for _, f := range s.Files() {
		clear(f.Bytes)
	}
	clear(s.Files())
	clear(s.Docs())
	clear(s.Bytes(0))
	clear(s.Lines(0))
	clear(s.Places("aba"))
	again, _ := Make(s.Files()...)
	docs, _ := doc.Of(files...)
	if !bytes.Equal(again, want) || !slices.EqualFunc(files, some(), sameFile) || !reflect.DeepEqual(s.Docs(), docs) || len(s.Places("aba")) != 2 || len(gram.Grams(s.Bytes(0))) != 4 || s.Places("aba")[1] != (api.Place{Doc: 2, At: 1}) || s.Lines(0)[1] != 5 {
		t.Error("changed")
	}
}

// What is gone through is left where a loop ends.
func TestDocumentsAreLeft(t *testing.T) {
	b, _ := Make(some()...)
	s, _ := Open(b)
	for f := range s.each() {
		if f.Path != "a.go" {
			t.Error(f)
		}
		break
	}
}
