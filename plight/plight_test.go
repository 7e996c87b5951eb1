package plight

import (
	"fmt"
	"math/rand"
	"slices"
	"strings"
	"testing"

	"mudlark/api"
	"mudlark/batch"
	"mudlark/chance"
	"mudlark/seek"
)

func made(t *testing.T, room int) *World {
	t.Helper()
	w, e := New(room)
	if w == nil || e != api.OK {
		t.Fatal(e)
	}
	return w
}

func file(path, text string) api.File { return api.File{Path: path, Bytes: []byte(text)} }

func put(path, text string) Deed { return Deed{What: 0, File: file(path, text)} }

func take(path string) Deed { return Deed{What: 1, File: api.File{Path: path}} }

// say is the corpora that are believed, as a text.
func say(w *World) string {
	var out []string
	for _, l := range w.Corpora() {
		text := ""
		for _, f := range l {
			text += f.Path + "=" + string(f.Bytes) + " "
		}
		out = append(out, strings.TrimSpace(text))
	}
	return strings.Join(out, "|")
}

// step is a deed, and what is to be told of it, and believed then.
type step struct {
	deed    Deed
	e       api.Errno
	corpora string
}

// play does deeds, of which all fits.
func play(t *testing.T, w *World, steps ...step) {
	t.Helper()
	for i, s := range steps {
		if got := w.Do(s.deed); got.Err != s.e || !got.Fits || say(w) != s.corpora {
			t.Fatalf("%d: %v: %v, %s", i, s.deed, got, say(w))
		}
	}
}

const (
	ok, null, arg, long                = api.OK, api.ErrNil, api.ErrArg, api.ErrLong
	noSpace, corrupt, none, known      = api.ErrNoSpace, api.ErrCorrupt, api.ErrNone, api.ErrKnown
	down                               = api.ErrDown
	commit, compact, search, arm, full = 2, 3, 4, 5, 6
	crash, flip, cut, open, drop       = 7, 8, 9, 10, 11
)

// P31.2: the chapter's example, woken in both ways.
func TestExample(t *testing.T) {
	for dirs := range 6 {
		w := made(t, 1<<20)
		play(t, w, step{put("a", "1"), ok, ""}, step{Deed{What: arm, N: 3}, ok, ""}, step{Deed{What: commit}, down, "|a=1"}, step{Deed{What: commit}, down, "|a=1"}, step{Deed{What: open}, down, "|a=1"}, step{Deed{What: commit}, null, "|a=1"}, step{Deed{What: crash, N: dirs}, ok, ""}, step{Deed{What: commit}, ok, ""})
	}
	for dirs, want := range map[int]string{0: "", 1: "a=1"} {
		w := made(t, 1<<20)
		play(t, w, step{put("a", "1"), ok, ""}, step{Deed{What: arm, N: 8}, ok, ""}, step{Deed{What: commit}, down, "|a=1"}, step{Deed{What: crash, N: dirs}, ok, want}, step{Deed{What: open}, ok, want}, step{put("b", "2"), ok, want}, step{Deed{What: commit}, ok, strings.TrimSpace(want + " b=2")})
	}
}

// P31.2: each deed, on a store that is up, on one that is down, and without a store.
func TestDeeds(t *testing.T) {
	w := made(t, 1<<20)
	play(t, w,
		step{put("a", "1"), ok, ""}, step{put("/", ""), arg, ""}, step{take(""), arg, ""}, step{take("b"), ok, ""}, step{Deed{What: commit}, ok, "a=1"},
		step{put("c", "3"), ok, "a=1"}, step{Deed{What: drop}, ok, "a=1"}, step{Deed{What: commit}, ok, "a=1"},
		step{put("b", "2"), ok, "a=1"}, step{Deed{What: commit + 12}, ok, "a=1 b=2"}, step{Deed{What: compact - 24}, ok, "a=1 b=2"},
		step{take("a"), ok, "a=1 b=2"}, step{Deed{What: full, N: 1}, ok, "a=1 b=2"}, step{Deed{What: commit}, noSpace, "a=1 b=2"}, step{Deed{What: commit}, ok, "b=2"},
		step{put("d", "4"), ok, "b=2"}, step{Deed{What: open}, ok, "b=2"}, step{Deed{What: commit}, ok, "b=2"},
		step{Deed{What: flip, N: 1}, arg, "b=2"}, step{Deed{What: cut, N: 1, M: -1}, arg, "b=2"},
	)
	if w.Hurt() {
		t.Error("hurt")
	}
	w.disk.Crash()
	play(t, w, step{put("/", ""), down, "b=2"}, step{take("b"), down, "b=2"}, step{Deed{What: commit}, down, "b=2"}, step{Deed{What: compact}, down, "b=2"}, step{Deed{What: search, Ask: api.Ask{Cap: 1}}, down, "b=2"}, step{Deed{What: search}, arg, "b=2"}, step{Deed{What: arm, N: 1}, ok, "b=2"}, step{Deed{What: full}, ok, "b=2"}, step{Deed{What: flip}, down, "b=2"}, step{Deed{What: cut}, down, "b=2"}, step{Deed{What: drop}, down, "b=2"})
	w.disk.Wake(0)
	play(t, w, step{Deed{What: commit}, down, "b=2"}, step{Deed{What: open}, ok, "b=2"}, step{put("d", "4"), ok, "b=2"}, step{Deed{What: -1}, ok, "b=2"}, step{Deed{What: commit}, ok, "b=2"})
	play(t, w, step{put("d", "4"), ok, "b=2"}, step{Deed{What: flip, N: -2, M: 0, Mask: 1}, ok, "b=2"}, step{Deed{What: flip, Mask: 1}, known, "b=2"}) // of m and s.2 the first one
	if !w.Hurt() {
		t.Error("not hurt")
	}
	play(t, w, step{Deed{What: commit}, ok, "b=2 d=4"}, step{Deed{What: cut, N: 1, M: 3}, ok, "b=2 d=4"}, step{Deed{What: commit}, corrupt, "b=2 d=4"}, step{Deed{What: compact}, corrupt, "b=2 d=4"}, step{Deed{What: search, Ask: api.Ask{Cap: 1}}, corrupt, "b=2 d=4"}, step{put("e", "5"), ok, "b=2 d=4"}, step{Deed{What: open}, corrupt, "b=2 d=4"}, step{put("e", "5"), ok, "b=2 d=4"}, step{Deed{What: search, Ask: api.Ask{Regex: "(", Cap: 1}}, api.ErrSyntax, "b=2 d=4"})
	play(t, w, step{Deed{What: cut, N: 12, M: 0}, ok, "b=2 d=4"}, step{Deed{What: crash}, corrupt, "b=2 d=4"}) // m
	for _, what := range []int{0, 1, commit, compact, search, drop} {
		play(t, w, step{Deed{What: what}, null, "b=2 d=4"})
	}
	play(t, w, step{Deed{What: arm, N: 1}, ok, "b=2 d=4"}, step{Deed{What: open}, corrupt, "b=2 d=4"}, step{Deed{What: full, N: 1}, ok, "b=2 d=4"}, step{Deed{What: cut, N: 0, M: 5}, arg, "b=2 d=4"}, step{Deed{What: crash, N: 9, Tears: []int{1}}, corrupt, "b=2 d=4"})
}

// P31.2: files are counted round; where there is none it is m.
func TestFiles(t *testing.T) {
	w := made(t, 1<<20)
	play(t, w, step{Deed{What: flip, N: 7, Mask: 1}, none, ""}, step{Deed{What: cut, N: -7}, none, ""})
	play(t, w, step{put("a", "1"), ok, ""}, step{Deed{What: commit}, ok, "a=1"}, step{Deed{What: cut, N: -1 << 63, M: 4}, ok, "a=1"}, step{Deed{What: cut, N: -1, M: 4}, ok, "a=1"})
	for _, name := range []string{"m", "s.1"} {
		if n, _ := w.disk.Size(name); n != 4 {
			t.Error(name, n)
		}
	}
}

// P31.2: a search's answer.
func TestSearch(t *testing.T) {
	w := made(t, 1<<20)
	play(t, w, step{put("a.go", "x y"), ok, ""}, step{Deed{What: commit}, ok, "a.go=x y"})
	got := w.Do(Deed{What: search, Ask: api.Ask{Regex: "y", Cap: 5}})
	if !got.Fits || got.Err != ok || len(got.Answer.Hits) != 1 || got.Answer.Hits[0] != (api.Hit{Path: "a.go", Line: 1, Text: "x y", Start: 2, End: 3}) {
		t.Error(got)
	}
	if got := w.Do(Deed{What: search, Ask: api.Ask{Regex: "y"}}); !got.Fits || got.Err != arg || got.Answer.Hits != nil {
		t.Error(got)
	}
}

// P31.2: ErrLong, of too many files, and of too many bytes.
func TestLong(t *testing.T) {
	w := made(t, 1<<20)
	for i := range 4000 {
		w.Do(put(fmt.Sprintf("%04d", i), ""))
		if i%400 == 399 {
			w.Do(Deed{What: commit})
		}
	}
	w.Do(put("x", ""))
	if got := w.Do(Deed{What: commit}); got.Err != long || !got.Fits || len(w.Corpora()[0]) != 4000 {
		t.Error(got)
	}
	w = made(t, 1<<20)
	for i := range 30 {
		w.Do(Deed{File: api.File{Path: fmt.Sprintf("%04d", i), Bytes: make([]byte, 1<<20)}})
	}
	if got := w.Do(Deed{What: commit}); got.Err != long || !got.Fits {
		t.Error(got)
	}
}

// P31.2: what does not fit: a store that does other things than it is believed to.
func TestNotFits(t *testing.T) {
	for name, spoil := range map[string]func(w *World) []Deed{
		"a file more":  func(w *World) []Deed { w.store.Put(file("x", "")); return []Deed{{What: commit}, {What: open}} },
		"a file fewer": func(w *World) []Deed { w.store.Drop(); return []Deed{{What: commit}, {What: crash}} },
		"another answer": func(w *World) []Deed {
			w.corpus[0].Bytes = []byte("2")
			return []Deed{{What: search, Ask: api.Ask{Regex: "1", Cap: 1}}}
		},
		"nothing was hurt": func(w *World) []Deed { w.disk.Flip("m", 0, 1); return []Deed{{What: open}} },
		"no reading":       func(w *World) []Deed { w.disk.Cut("s.1", 1); return []Deed{{What: commit}} },
		"no compaction":    func(w *World) []Deed { w.disk.Cut("s.1", 1); return []Deed{{What: compact}} },
		"no answer":        func(w *World) []Deed { w.disk.Cut("s.1", 1); return []Deed{{What: search, Ask: api.Ask{Cap: 1}}} },
		"not down":         func(w *World) []Deed { w.disk.Crash(); w.disk.Wake(0); w.crashes++; return []Deed{put("x", "")} },
		"no drop":          func(w *World) []Deed { w.disk.Crash(); w.disk.Wake(0); w.crashes++; return []Deed{{What: drop}} },
		"no commit":        func(w *World) []Deed { w.disk.Crash(); w.disk.Wake(0); w.crashes++; return []Deed{{What: commit}} },
		"no search": func(w *World) []Deed {
			w.disk.Crash()
			w.disk.Wake(0)
			w.crashes++
			return []Deed{{What: search, Ask: api.Ask{Cap: 1}}}
		},
	} {
		w := made(t, 1<<20)
		play(t, w, step{put("a", "1"), ok, ""}, step{Deed{What: commit}, ok, "a=1"}, step{put("b", "2"), ok, "a=1"})
		deeds := spoil(w)
		for i, d := range deeds {
			if got := w.Do(d); got.Fits != (i < len(deeds)-1) {
				t.Errorf("%s: %d: %v", name, i, got)
			}
		}
	}
}

// P31.1, P31.2: wrong rooms, and no world.
func TestNone(t *testing.T) {
	for _, room := range []int{-1, 1<<26 + 1} {
		if w, e := New(room); w != nil || e != arg {
			t.Error(room, e)
		}
	}
	for _, room := range []int{0, 1 << 26} {
		if w := made(t, room); w.Hurt() || len(w.Corpora()) != 1 || len(w.Corpora()[0]) != 0 {
			t.Error(room)
		}
	}
	for _, w := range []*World{nil, {}} {
		for what := range 12 {
			if got := w.Do(Deed{What: what}); got.Err != null || got.Fits || got.Answer.Hits != nil {
				t.Error(what, got)
			}
		}
		if w.Corpora() != nil || w.Hurt() {
			t.Error("no world")
		}
	}
}

// P31.2: where another corpus, or an error, is near to one that fits, but is none.
func TestJust(t *testing.T) {
	b := belief{corpus: []api.File{file("a", "1"), file("b", "2")}}
	for i, l := range [][]api.File{{file("a", "1"), file("b", "3")}, {file("a", "1"), file("c", "2")}, {file("a", "1")}, {file("a", "1"), file("b", "2"), file("c", "3")}} {
		if b.oneOf(func(files []api.File) bool { return same(files, l) }) {
			t.Error(i)
		}
		b.other, b.perhaps = l, true
		if !b.oneOf(func(files []api.File) bool { return same(files, l) }) {
			t.Error(i)
		}
		b.perhaps = false
	}
	b = belief{corpus: []api.File{{Path: "a", Bytes: make([]byte, 1<<20-1)}}, waits: []api.Change{{Path: "b", Bytes: []byte("1")}}}
	if b.long() {
		t.Error("2^20 bytes")
	}
	b.waits[0].Bytes = []byte("12")
	if !b.long() {
		t.Error("one more")
	}
	w := made(t, 1<<20)
	for _, e := range []api.Errno{ok, null, arg, long, api.ErrSyntax, corrupt, none, known, down} {
		if w.excused(e) {
			t.Error(e)
		}
	}
}

// P31.2: a deed that crashes the disk does so; nothing waits then, whatever is told.
func TestCrash(t *testing.T) {
	w := made(t, 1<<20)
	play(t, w, step{put("a", "1"), ok, ""}, step{Deed{What: arm, N: 1}, ok, ""}, step{Deed{What: crash}, ok, ""}, step{put("a", "1"), ok, ""}, step{Deed{What: commit}, ok, "a=1"})
	if got := w.disk.Stat().Crashes; got != 1 {
		t.Error(got)
	}
	play(t, w, step{Deed{What: cut, N: 1}, ok, "a=1"}, step{put("b", "2"), ok, "a=1"}, step{Deed{What: open}, corrupt, "a=1"})
	if len(w.waits) > 0 {
		t.Error(w.waits)
	}
}

// R3: deeds are not changed and not kept, corpora are new memory.
func TestMemory(t *testing.T) {
	w := made(t, 1<<20)
	d, tears := put("a", "1"), []int{1, 2, 3}
	w.Do(d)
	clear(d.File.Bytes)
	w.Do(Deed{What: commit})
	for range 2 {
		l := w.Corpora()
		if say(w) != "a=1" {
			t.Error(say(w))
		}
		clear(l[0][0].Bytes)
		clear(l[0])
		clear(l)
		w.Do(Deed{What: crash, Tears: tears})
	}
	if !slices.Equal(tears, []int{1, 2, 3}) {
		t.Error(tears)
	}
	copied := *w
	if copied.Do(Deed{What: cut, M: 1}); !w.Hurt() {
		t.Error("a copy of a world is another one")
	}
}

// someDeed is a deed of chance.
func someDeed(r *rand.Rand, hurts bool) Deed {
	draw := chance.Draw(r.Intn)
	d := Deed{What: []int{0, 0, 0, 0, 1, 2, 2, 2, 3, 4, 4, 5, 5, 6, 7, 7, 10, 11}[r.Intn(18)]}
	if hurts && r.Intn(12) == 0 {
		d.What = 8 + r.Intn(2)
	}
	d.File = api.File{Path: []string{"a", "b.go", "c", "d/e.py", "f", "g", ""}[min(6, r.Intn(40)%7+r.Intn(2)*r.Intn(2))]}
	if d.What%12 == 0 {
		d.File.Bytes = draw.Text(30)
	}
	d.Ask = api.Ask{Regex: draw.Regex(1), Path: []string{"", "a", "("}[r.Intn(9)/4], Cap: r.Intn(5)}
	d.N, d.M, d.Mask = r.Intn(14), r.Intn(400), r.Uint32()>>r.Intn(32)
	if d.What == crash || d.What > 7 && d.What < 10 {
		d.N = r.Int()>>r.Intn(63) - 3
	}
	for range r.Intn(7) {
		d.Tears = append(d.Tears, r.Int()>>r.Intn(63))
	}
	d.What += 12 * (r.Intn(3) - 1)
	return d
}

// P31.3, P3, P5: whatever is done, all that is told fits; each error comes to be told.
func TestAllFits(t *testing.T) {
	r := rand.New(rand.NewSource(311))
	told := map[api.Errno]int{}
	two := 0
	for world := range 700 {
		w := made(t, []int{1 << 20, 2000, 800}[world%3])
		var deeds []Deed
		for range 60 {
			d := someDeed(r, world%2 == 1)
			deeds = append(deeds, d)
			got := w.Do(d)
			if told[got.Err]++; !got.Fits {
				t.Fatalf("%v: %v, %s", deeds, got, say(w))
			}
			if len(w.Corpora()) == 2 {
				two++
			}
			if w.Hurt() && world%2 == 0 {
				t.Fatal("hurt")
			}
		}
	}
	for _, e := range []api.Errno{ok, null, arg, noSpace, corrupt, none, known, down} {
		if told[e] < 20 {
			t.Error(e, told[e])
		}
	}
	if two < 100 {
		t.Error(two)
	}
}

// P31.2, P1: without crashes, faults and damage the corpus is what the batches make, and answers are of it.
func TestPlainRun(t *testing.T) {
	r := rand.New(rand.NewSource(312))
	for range 40 {
		w := made(t, 1<<20)
		var files []api.File
		var waits []api.Change
		for range 80 {
			d := someDeed(r, false)
			d.What = []int{0, 0, 0, 1, 2, 3, 4, 10, 11}[r.Intn(9)]
			d.Ask.Path, d.Ask.Cap = "", 5
			got := w.Do(d)
			switch c := (api.Change{Path: d.File.Path, Take: d.What == 1}); d.What {
			case 0, 1:
				if d.What == 0 {
					c.Bytes = d.File.Bytes
				}
				if l, e := batch.With(waits, c); e == ok {
					waits = l
				}
			case commit:
				files, _ = batch.Apply(files, waits)
				waits = nil
			case search:
				if want, e := seek.Model(files, d.Ask); got.Err != e || got.Answer.Cut != want.Cut || !slices.Equal(got.Answer.Hits, want.Hits) {
					t.Fatal(got, want)
				}
			case open, drop:
				waits = nil
			}
			if l := w.Corpora(); !got.Fits || len(l) != 1 || !same(l[0], files) {
				t.Fatal(d, got, l, files)
			}
		}
	}
}
