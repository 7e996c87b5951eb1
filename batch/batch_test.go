package batch

import (
	"bytes"
	"fmt"
	"math/rand"
	"slices"
	"sort"
	"strings"
	"testing"

	"mudlark/api"
	"mudlark/doc"
	"mudlark/lang"
)

// plainRight is the document's words of a batch.
func plainRight(l []api.Change) bool {
	var paths []string
	for _, c := range l {
		if paths = append(paths, c.Path); !plainChange(c) {
			return false
		}
	}
	return len(l) <= 400 && slices.Equal(paths, slices.Compact(slices.Sorted(slices.Values(paths))))
}

// plainChange is the document's words of a change that is right.
func plainChange(c api.Change) bool {
	return lang.Right(c.Path) && len(c.Bytes) <= 1<<20 && (!c.Take || len(c.Bytes) == 0)
}

// byPath is things by their paths.
type byPath[T any] map[string]T

// rising is the things, by their paths rising.
func (m byPath[T]) rising() []T {
	var paths []string
	for p := range m {
		paths = append(paths, p)
	}
	sort.Strings(paths)
	var out []T
	for _, p := range paths {
		out = append(out, m[p])
	}
	return out
}

func filesOf(l []api.File) byPath[api.File] {
	out := byPath[api.File]{}
	for _, f := range l {
		out[f.Path] = f
	}
	return out
}

// plainWith is the document's words of With.
func plainWith(l, more []api.Change) ([]api.Change, api.Errno) {
	ok := plainRight(l)
	m := byPath[api.Change]{}
	for _, c := range slices.Concat(l, more) {
		ok = ok && plainChange(c)
		m[c.Path] = c
	}
	switch {
	case !ok:
		return nil, api.ErrArg
	case len(m) > 400:
		return nil, api.ErrLong
	}
	return m.rising(), api.OK
}

// plainApply is the document's words of Apply.
func plainApply(files []api.File, l []api.Change) ([]api.File, api.Errno) {
	if !doc.Files(files) || !plainRight(l) {
		return nil, api.ErrArg
	}
	m := filesOf(files)
	for _, c := range l {
		if delete(m, c.Path); !c.Take {
			m[c.Path] = api.File{Path: c.Path, Bytes: c.Bytes}
		}
	}
	if len(m) > 4000 {
		return nil, api.ErrLong
	}
	return m.rising(), api.OK
}

// plainDiff is the document's words of Diff.
func plainDiff(a, b []api.File) ([]api.Change, api.Errno) {
	if !doc.Files(a) || !doc.Files(b) {
		return nil, api.ErrArg
	}
	before, after, m := filesOf(a), filesOf(b), byPath[api.Change]{}
	for p := range before {
		m[p] = api.Change{Path: p, Take: true}
	}
	for p, f := range after {
		m[p] = api.Change{Path: p, Bytes: f.Bytes}
		if was, ok := before[p]; ok && bytes.Equal(was.Bytes, f.Bytes) {
			delete(m, p)
		}
	}
	return m.rising(), api.OK
}

func sameFile(a, b api.File) bool { return a.Path == b.Path && bytes.Equal(a.Bytes, b.Bytes) }

func sameChange(a, b api.Change) bool {
	return a.Path == b.Path && a.Take == b.Take && bytes.Equal(a.Bytes, b.Bytes)
}

// checkWith holds With, and Right, against the plain words.
func checkWith(t *testing.T, l, more []api.Change) ([]api.Change, api.Errno) {
	t.Helper()
	if Right(l) != plainRight(l) || Right(more) != plainRight(more) {
		t.Fatalf("%v, %v: %v, %v", l, more, Right(l), Right(more))
	}
	got, e := With(l, more...)
	want, wantE := plainWith(l, more)
	if !slices.EqualFunc(got, want, sameChange) || e != wantE || e == api.OK && !Right(got) {
		t.Fatalf("%v with %v: %v, %d, not %v, %d", l, more, got, e, want, wantE)
	}
	return got, e
}

// checkApply holds Apply, and Nothing, against the plain words.
func checkApply(t *testing.T, files []api.File, l []api.Change) ([]api.File, api.Errno) {
	t.Helper()
	got, e := Apply(files, l)
	want, wantE := plainApply(files, l)
	if !slices.EqualFunc(got, want, sameFile) || e != wantE {
		t.Fatalf("%v behind %v: %v, %d, not %v, %d", files, l, got, e, want, wantE)
	}
	if nothing := e == api.OK && slices.EqualFunc(want, files, sameFile); Nothing(files, l) != nothing {
		t.Fatalf("%v behind %v: nothing %v", files, l, !nothing)
	}
	return got, e
}

// checkDiff holds Diff against the plain words.
func checkDiff(t *testing.T, a, b []api.File) ([]api.Change, api.Errno) {
	t.Helper()
	got, e := Diff(a, b)
	want, wantE := plainDiff(a, b)
	if !slices.EqualFunc(got, want, sameChange) || e != wantE {
		t.Fatalf("%v to %v: %v, %d, not %v, %d", a, b, got, e, want, wantE)
	}
	return got, e
}

func put(path, text string) api.Change { return api.Change{Path: path, Bytes: []byte(text)} }

func take(path string) api.Change { return api.Change{Path: path, Take: true} }

func file(path, text string) api.File { return api.File{Path: path, Bytes: []byte(text)} }

// say is files as a text.
func say(l []api.File) string {
	var out []string
	for _, f := range l {
		out = append(out, f.Path+"="+string(f.Bytes))
	}
	return strings.Join(out, " ")
}

// sayChanges is changes as a text.
func sayChanges(l []api.Change) string {
	var out []string
	for _, c := range l {
		if c.Take {
			out = append(out, "-"+c.Path)
		} else {
			out = append(out, c.Path+"="+string(c.Bytes))
		}
	}
	return strings.Join(out, " ")
}

// P26.1 to P26.3: the chapter's example, and others.
func TestExamples(t *testing.T) {
	ab := []api.File{file("a", "1"), file("b", "2")}
	l, e := checkWith(t, nil, []api.Change{put("b", "3"), take("a"), put("c", "4")})
	if got := sayChanges(l); got != "-a b=3 c=4" || e != api.OK {
		t.Errorf("%s, %d", got, e)
	}
	files, e := checkApply(t, ab, l)
	if got := say(files); got != "b=3 c=4" || e != api.OK {
		t.Errorf("%s, %d", got, e)
	}
	l, _ = checkDiff(t, ab, files)
	if got := sayChanges(l); got != "-a b=3 c=4" {
		t.Error(got)
	}
	l, _ = checkWith(t, l, []api.Change{put("a", "5"), take("b"), put("a", "6"), put("bb", ""), take("c"), put("c", "7")})
	if got := sayChanges(l); got != "a=6 -b bb= c=7" {
		t.Error(got)
	}
	for i, l := range []struct {
		batch   []api.Change
		behind  string
		nothing bool
	}{
		{nil, "a=1 b=2", true}, {[]api.Change{put("a", "1")}, "a=1 b=2", true}, {[]api.Change{take("c")}, "a=1 b=2", true}, {[]api.Change{put("a", "")}, "a= b=2", false}, {[]api.Change{take("b")}, "a=1", false}, {[]api.Change{put("c", "")}, "a=1 b=2 c=", false}, {[]api.Change{put("a", "1"), take("aa"), put("b", "2"), take("c")}, "a=1 b=2", true}, {[]api.Change{take("a"), take("b")}, "", false}, {[]api.Change{put("A", "0")}, "A=0 a=1 b=2", false},
	} {
		files, e := checkApply(t, ab, l.batch)
		if say(files) != l.behind || e != api.OK || Nothing(ab, l.batch) != l.nothing {
			t.Errorf("%d: %v, %d", i, files, e)
		}
	}
}

// P26.1 to P26.3: what is not right.
func TestErrors(t *testing.T) {
	long := make([]byte, 1<<20+1)
	wrong := []api.Change{{}, put("/a", ""), put("a//b", ""), take(".."), {Path: "a", Bytes: long}, {Path: "a", Take: true, Bytes: []byte{0}}}
	for i, c := range wrong {
		l, right := []api.Change{c}, []api.Change{put("b", "")}
		_, e := checkWith(t, l, nil)
		_, f := checkWith(t, right, l)
		_, g := checkApply(t, nil, l)
		if e != api.ErrArg || f != api.ErrArg || g != api.ErrArg || Right(l) || Nothing(nil, l) {
			t.Errorf("%d: %d, %d, %d", i, e, f, g)
		}
	}
	for _, c := range []api.Change{{Path: "a", Bytes: long[1:]}, {Path: "a", Take: true, Bytes: []byte{}}, {Path: strings.Repeat("a", 200)}} {
		if _, e := checkWith(t, []api.Change{c}, []api.Change{c}); e != api.OK {
			t.Errorf("%v", c.Path)
		}
	}
	for _, l := range [][]api.Change{{put("b", ""), put("a", "")}, {put("a", ""), put("a", "")}, {put("a", ""), take("a")}} {
		_, e := checkWith(t, l, nil)
		_, f := checkApply(t, nil, l)
		if e != api.ErrArg || f != api.ErrArg {
			t.Errorf("%v: %d, %d", l, e, f)
		}
		if _, e := checkWith(t, nil, l); e != api.OK {
			t.Errorf("%v: more %d", l, e)
		}
	}
	wrongFiles := []api.File{file("b", ""), file("a", "")}
	checkApply(t, wrongFiles, nil)
	for _, l := range [][2][]api.File{{wrongFiles, nil}, {nil, wrongFiles}, {nil, {{Path: "a", Bytes: long}}}} {
		if _, e := checkDiff(t, l[0], l[1]); e != api.ErrArg {
			t.Errorf("%v: %d", l, e)
		}
	}
}

// P26.1, P26.2: 400 paths, 4000 files, and one more.
func TestLimits(t *testing.T) {
	var l []api.Change
	var files []api.File
	for i := range 4001 {
		files = append(files, api.File{Path: fmt.Sprintf("%04d", i)})
		l = append(l, api.Change{Path: files[i].Path})
	}
	for _, x := range []struct {
		from, to, again int
		e               api.Errno
	}{
		{400, 400, 0, api.OK}, {400, 401, 0, api.ErrLong}, {0, 400, 5, api.OK}, {0, 401, 0, api.ErrLong}, {401, 401, 0, api.ErrArg}, {399, 400, 390, api.OK},
	} {
		more := append(slices.Clone(l[x.from:x.to]), l[:x.again]...)
		if _, e := checkWith(t, l[:x.from], more); e != x.e {
			t.Errorf("%v: %d", x, e)
		}
	}
	extra := append([]api.Change{put("x", "")}, put("y", ""))
	for i, x := range []struct {
		files []api.File
		l     []api.Change
		e     api.Errno
	}{
		{files[:4000], nil, api.OK}, {files[:4000], extra[:1], api.ErrLong}, {files[:3999], extra[:1], api.OK}, {files[:3999], extra, api.ErrLong}, {files[:4000], append([]api.Change{take("0007"), take("0009")}, extra...), api.OK}, {files[:4000], append([]api.Change{take("0007")}, extra...), api.ErrLong}, {files, nil, api.ErrArg},
	} {
		if _, e := checkApply(t, x.files, x.l); e != x.e {
			t.Errorf("%d: %d", i, e)
		}
	}
	if got, e := checkDiff(t, files[:4000], []api.File{file("x", "")}); len(got) != 4001 || e != api.OK {
		t.Error(len(got), e)
	}
}

// somePath is one of few paths, rarely a wrong one.
func somePath(r *rand.Rand) string {
	if r.Intn(60) == 0 {
		return "a/../b"
	}
	return []string{"a", "b", "c.go", "d/e", "d.", "f", "g", "\xff"}[r.Intn(8)]
}

// someChanges is changes of chance, in any order.
func someChanges(r *rand.Rand) []api.Change {
	var out []api.Change
	for range r.Intn(6) {
		c := put(somePath(r), "12"[:r.Intn(3)])
		if r.Intn(3) == 0 {
			c = take(c.Path)
		}
		out = append(out, c)
	}
	return out
}

// someFiles is files of chance, mostly right.
func someFiles(r *rand.Rand) []api.File {
	var out []api.File
	for range r.Intn(7) {
		out = append(out, file(somePath(r), "12"[:r.Intn(3)]))
	}
	if r.Intn(12) > 0 {
		out = filesOf(out).rising()
	}
	return out
}

// P26.1 to P26.3, R4: of chance, alike each time.
func TestChance(t *testing.T) {
	r := rand.New(rand.NewSource(261))
	right, nothing := 0, 0
	for range 20000 {
		files, l, more := someFiles(r), someChanges(r), someChanges(r)
		checkWith(t, l, more)
		if batch, e := With(nil, l...); e == api.OK && r.Intn(4) > 0 {
			l = batch
		}
		checkWith(t, l, more)
		checkWith(t, l, more)
		checkApply(t, files, l)
		if _, e := checkApply(t, files, l); e == api.OK {
			right++
		}
		if Nothing(files, l) && len(l) > 0 {
			nothing++
		}
		checkDiff(t, files, someFiles(r))
	}
	if right < 5000 || nothing < 500 {
		t.Error(right, nothing)
	}
}

// P26.4: Diff makes b of a; changes of unlike Paths come in any order; two batches are as one; one again changes nothing.
func TestWhatFollows(t *testing.T) {
	r := rand.New(rand.NewSource(262))
	many := 0
	for range 20000 {
		a, b, l, more := someFiles(r), someFiles(r), someChanges(r), someChanges(r)
		diff, e := Diff(a, b)
		one, f := With(nil, l...)
		two, g := With(nil, more...)
		if e != api.OK || f != api.OK || g != api.OK {
			continue
		}
		many++
		if got, e := Apply(a, diff); e != api.OK || !slices.EqualFunc(got, b, sameFile) {
			t.Fatalf("%v to %v: %v, %d", a, b, got, e)
		}
		shuffled := slices.Clone(one)
		r.Shuffle(len(shuffled), func(i, j int) { shuffled[i], shuffled[j] = shuffled[j], shuffled[i] })
		if got, e := With(nil, shuffled...); e != api.OK || !slices.EqualFunc(got, one, sameChange) {
			t.Fatalf("%v: %v", shuffled, got)
		}
		first, _ := Apply(a, one)
		second, _ := Apply(first, two)
		both, _ := With(one, two...)
		if got, _ := Apply(a, both); !slices.EqualFunc(got, second, sameFile) {
			t.Fatalf("%v: %v, then %v: %v, not %v", a, one, two, got, second)
		}
		if !Nothing(first, one) || !Nothing(second, both) {
			t.Fatalf("%v, %v", first, one)
		}
	}
	if many < 10000 {
		t.Error(many)
	}
}

// R3: what is handed in is not changed and not kept, what is handed out is new memory.
func TestMemory(t *testing.T) {
	files, others := []api.File{file("a", "1"), file("b", "2")}, []api.File{file("a", "3"), file("c", "4")}
	l, more := []api.Change{put("a", "5"), put("d", "6")}, []api.Change{put("e", "7"), put("a", "8"), put("e", "9")}
	overwrite := func(got []api.Change) {
		for i := range got {
			clear(got[i].Bytes)
		}
		clear(got)
	}
	with, _ := With(l, more...)
	diff, _ := Diff(files, others)
	overwrite(with)
	overwrite(diff)
	behind, _ := Apply(files, l)
	for i := range behind {
		clear(behind[i].Bytes)
	}
	if say(files) != "a=1 b=2" || say(others) != "a=3 c=4" || sayChanges(l) != "a=5 d=6" || sayChanges(more) != "e=7 a=8 e=9" {
		t.Error(files, others, l, more)
	}
}

// What is gone through is left where a loop ends.
func TestPairsAreLeft(t *testing.T) {
	for p := range merged(row{put("b", "")}, row{take("a")}) {
		if p.earlier != nil || p.later.Path != "a" {
			t.Error(p)
		}
		break
	}
}
