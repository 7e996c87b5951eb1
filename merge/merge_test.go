package merge

import (
	"bytes"
	"fmt"
	"math/rand"
	"slices"
	"strings"
	"testing"

	"mudlark/api"
	"mudlark/batch"
	"mudlark/doc"
)

// plainLiving is the files that are not dead.
func plainLiving(p Part) []api.File {
	var out []api.File
	for i, f := range p.Files {
		if !slices.Contains(p.Dead, i) {
			out = append(out, f)
		}
	}
	return out
}

// plainRight is the document's words of right parts.
func plainRight(parts []Part) bool {
	var paths []string
	for _, p := range parts {
		rise := slices.Equal(p.Dead, slices.Compact(slices.Sorted(slices.Values(p.Dead))))
		within := !slices.ContainsFunc(p.Dead, func(n int) bool { return n < 0 || n >= len(p.Files) })
		if !doc.Files(p.Files) || !rise || !within {
			return false
		}
		for _, f := range plainLiving(p) {
			paths = append(paths, f.Path)
		}
	}
	many := len(paths)
	slices.Sort(paths)
	return many == len(slices.Compact(paths)) && many <= 4000
}

// plainLive is the document's words of what lives.
func plainLive(parts []Part) []api.File {
	var out []api.File
	if !plainRight(parts) {
		return nil
	}
	for _, p := range parts {
		out = append(out, plainLiving(p)...)
	}
	slices.SortFunc(out, func(a, b api.File) int { return strings.Compare(a.Path, b.Path) })
	return out
}

// plainPlan is P27.2 as its words say it.
func plainPlan(parts []Part, l []api.Change) ([][]int, []api.File, api.Errno) {
	if !plainRight(parts) || !batch.Right(l) {
		return nil, nil, api.ErrArg
	}
	live := plainLive(parts)
	behind, e := batch.Apply(live, l)
	if e != api.OK {
		return nil, nil, e
	}
	changes, _ := batch.Diff(live, behind)
	has := func(path string) bool {
		return slices.ContainsFunc(changes, func(c api.Change) bool { return c.Path == path })
	}
	var dead, every [][]int
	var fresh []api.File
	for _, c := range changes {
		if !c.Take {
			fresh = append(fresh, api.File{Path: c.Path, Bytes: c.Bytes})
		}
	}
	lives := 0
	for _, p := range parts {
		var now, all []int
		for i, f := range p.Files {
			if all = append(all, i); slices.Contains(p.Dead, i) || has(f.Path) {
				now = append(now, i)
			}
		}
		if len(now) < len(all) {
			lives++
		}
		dead, every = append(dead, now), append(every, all)
	}
	if len(fresh) > 0 {
		lives++
	}
	if lives > 40 {
		return every, behind, api.OK
	}
	return dead, fresh, api.OK
}

func sameFile(a, b api.File) bool { return a.Path == b.Path && bytes.Equal(a.Bytes, b.Bytes) }

// check holds what is told of parts and a batch against the plain words, and what follows of a plan.
func check(t *testing.T, parts []Part, l []api.Change) ([][]int, []api.File, api.Errno) {
	t.Helper()
	if Right(parts...) != plainRight(parts) {
		t.Fatalf("%v: right %v", parts, Right(parts...))
	}
	live := plainLive(parts)
	if got := Live(parts...); !slices.EqualFunc(got, live, sameFile) {
		t.Fatalf("%v: %v, not %v", parts, got, live)
	}
	for _, p := range parts {
		if Lives(p) != (len(plainLiving(p)) > 0) {
			t.Fatalf("%v: lives %v", p, Lives(p))
		}
	}
	dead, fresh, e := Plan(parts, l)
	wantDead, wantFresh, wantE := plainPlan(parts, l)
	if !slices.EqualFunc(dead, wantDead, slices.Equal) || !slices.EqualFunc(fresh, wantFresh, sameFile) || e != wantE {
		t.Fatalf("%v, %v: %v, %v, %d, not %v, %v, %d", parts, l, dead, fresh, e, wantDead, wantFresh, wantE)
	}
	if e == api.OK {
		checkPlan(t, parts, l, dead, fresh)
	}
	return dead, fresh, e
}

// checkPlan is P27.3.
func checkPlan(t *testing.T, parts []Part, l []api.Change, dead [][]int, fresh []api.File) {
	t.Helper()
	var then []Part
	lives := 0
	for i, p := range append(slices.Clone(parts), Part{Files: fresh}) {
		if i < len(dead) {
			p.Dead = dead[i]
		}
		if Lives(p) {
			lives++
		}
		then = append(then, p)
	}
	behind, _ := batch.Apply(Live(parts...), l)
	if !Right(then...) || !slices.EqualFunc(Live(then...), behind, sameFile) || lives > 40 {
		t.Fatalf("%v, %v: %v, %v", parts, l, dead, fresh)
	}
}

func file(path, text string) api.File { return api.File{Path: path, Bytes: []byte(text)} }

func put(path, text string) api.Change { return api.Change{Path: path, Bytes: []byte(text)} }

func take(path string) api.Change { return api.Change{Path: path, Take: true} }

// say is a plan as a text.
func say(dead [][]int, fresh []api.File) string {
	out := fmt.Sprint(dead)
	for _, f := range fresh {
		out += " " + f.Path + "=" + string(f.Bytes)
	}
	return out
}

// P27.2: the chapter's example, and others.
func TestExamples(t *testing.T) {
	ab := Part{Files: []api.File{file("a", "1"), file("b", "2")}}
	cd := Part{Files: []api.File{file("b", "0"), file("c", "3"), file("d", "4")}, Dead: []int{0, 2}}
	for i, l := range []struct {
		parts []Part
		l     []api.Change
		want  string
	}{
		{[]Part{ab}, []api.Change{put("b", "5"), put("c", "6")}, "[[1]] b=5 c=6"},
		{[]Part{ab}, nil, "[[]]"}, {nil, nil, "[]"}, {nil, []api.Change{put("b", "5"), take("c")}, "[] b=5"}, {[]Part{{}}, []api.Change{put("b", "5")}, "[[]] b=5"},
		{[]Part{ab}, []api.Change{put("a", "1"), put("b", "2"), take("c")}, "[[]]"},
		{[]Part{ab, cd}, nil, "[[] [0 2]]"},
		{[]Part{cd, ab}, []api.Change{take("a"), put("b", "2"), put("c", "7"), take("d")}, "[[0 1 2] [0]] c=7"},
		{[]Part{ab, cd}, []api.Change{put("a", "1"), put("b", "0"), put("d", "4")}, "[[1] [0 2]] b=0 d=4"},
	} {
		dead, fresh, e := check(t, l.parts, l.l)
		if got := say(dead, fresh); got != l.want || e != api.OK {
			t.Errorf("%d: %s, %d", i, got, e)
		}
	}
}

// P27.1, P27.2: parts that are not right, and no batch.
func TestWrong(t *testing.T) {
	ab := []api.File{file("a", "1"), file("b", "2")}
	for i, parts := range [][]Part{
		{{Files: []api.File{file("b", ""), file("a", "")}}}, {{Files: []api.File{{}}}}, {{Files: ab, Dead: []int{2}}}, {{Files: ab, Dead: []int{-1}}}, {{Files: ab, Dead: []int{1, 0}}}, {{Files: ab, Dead: []int{0, 0}}}, {{Dead: []int{0}}},
		{{Files: ab}, {Files: ab[1:]}}, {{Files: ab, Dead: []int{0}}, {Files: ab[:1]}, {Files: ab[1:]}},
	} {
		dead, fresh, e := check(t, parts, nil)
		if dead != nil || fresh != nil || e != api.ErrArg || Right(parts...) || Live(parts...) != nil {
			t.Errorf("%d: %v, %v, %d", i, dead, fresh, e)
		}
	}
	for i, parts := range [][]Part{nil, {{}}, {{Files: ab, Dead: []int{0, 1}}}, {{Files: ab, Dead: []int{0, 1}}, {Files: ab}}, {{Files: ab, Dead: []int{1}}, {Files: ab[1:]}}} {
		if _, _, e := check(t, parts, nil); e != api.OK || !Right(parts...) {
			t.Errorf("%d: %d", i, e)
		}
	}
	for _, l := range [][]api.Change{{put("b", ""), put("a", "")}, {put("/", "")}} {
		if dead, fresh, e := check(t, []Part{{Files: ab}}, l); dead != nil || fresh != nil || e != api.ErrArg {
			t.Errorf("%v: %d", l, e)
		}
	}
	for i, l := range []struct {
		p     Part
		lives bool
	}{
		{Part{}, false}, {Part{Dead: []int{0}}, false}, {Part{Files: ab}, true}, {Part{Files: ab, Dead: []int{1, 0}}, false}, {Part{Files: ab, Dead: []int{5, 0, -7, 0}}, true}, {Part{Files: []api.File{{}}}, true},
	} {
		if Lives(l.p) != l.lives {
			t.Errorf("%d: lives %v", i, Lives(l.p))
		}
	}
}

// many is so many parts, each of which has two files, the second one dead.
func many(n int) []Part {
	var out []Part
	for i := range n {
		out = append(out, Part{Files: []api.File{file(fmt.Sprintf("%02d", i), "1"), file("z", "2")}, Dead: []int{1}})
	}
	return out
}

// P27.2: 40 parts that live, and one more; 4000 files that live, and one more.
func TestLimits(t *testing.T) {
	for i, l := range []struct {
		parts []Part
		l     []api.Change
		fresh int
		whole bool
	}{
		{many(39), []api.Change{put("x", "1")}, 1, false}, {many(39), []api.Change{put("x", "1"), put("y", "1")}, 2, false}, {many(40), []api.Change{put("x", "1")}, 41, true}, {many(40), []api.Change{take("07")}, 0, false}, {many(40), nil, 0, false}, {many(40), []api.Change{put("07", "2")}, 1, false}, {many(40), []api.Change{put("07", "1"), put("x", "")}, 41, true}, {many(40), []api.Change{take("07"), put("x", "")}, 1, false}, {many(41), nil, 41, true}, {append(many(40), Part{}, Part{Files: []api.File{file("y", "")}, Dead: []int{0}}), nil, 0, false},
	} {
		dead, fresh, e := check(t, l.parts, l.l)
		if e != api.OK || len(fresh) != l.fresh || (len(dead[3]) == 2) != l.whole {
			t.Errorf("%d: %v, %v, %d", i, dead, fresh, e)
		}
	}
	var a, b Part
	for i := range 2001 {
		a.Files, b.Files = append(a.Files, file(fmt.Sprintf("a%04d", i), "")), append(b.Files, file(fmt.Sprintf("b%04d", i), ""))
	}
	if _, _, e := check(t, []Part{a, b}, nil); e != api.ErrArg {
		t.Errorf("4002: %d", e)
	}
	a.Dead, b.Dead = []int{0}, []int{0}
	for i, l := range []struct {
		l []api.Change
		e api.Errno
	}{
		{nil, api.OK}, {[]api.Change{put("c", "")}, api.ErrLong}, {[]api.Change{take("a0001"), put("c", "")}, api.OK}, {[]api.Change{put("a0000", "")}, api.ErrLong}, {[]api.Change{put("a0001", "1")}, api.OK},
	} {
		if _, _, e := check(t, []Part{a, b}, l.l); e != l.e {
			t.Errorf("%d: %d", i, e)
		}
	}
}

// some is parts of chance, mostly right ones, and a batch.
func some(r *rand.Rand) ([]Part, []api.Change) {
	paths := []string{"a", "b", "c", "d", "e/f", "g"}
	lives := map[string]int{}
	var parts []Part
	for range r.Intn(5) {
		var p Part
		for _, path := range paths {
			if r.Intn(2) == 0 {
				continue
			}
			if p.Files = append(p.Files, file(path, "12"[:r.Intn(3)])); lives[path] > 0 || r.Intn(3) == 0 {
				p.Dead = append(p.Dead, len(p.Files)-1)
			} else {
				lives[path]++
			}
		}
		if r.Intn(30) == 0 {
			p.Dead = append(p.Dead, r.Intn(8)-1)
		}
		parts = append(parts, p)
	}
	var l []api.Change
	for _, path := range append(paths, "h") {
		switch r.Intn(5) {
		case 0:
			l = append(l, take(path))
		case 1, 2:
			l = append(l, put(path, "12"[:r.Intn(3)]))
		}
	}
	return parts, l
}

// P27.1 to P27.3, R4: of chance, alike each time.
func TestChance(t *testing.T) {
	r := rand.New(rand.NewSource(271))
	right := 0
	for range 10000 {
		parts, l := some(r)
		check(t, parts, l)
		if _, _, e := check(t, parts, l); e == api.OK {
			right++
		}
		live := Live(parts...)
		if dead, fresh, e := Plan(parts, nil); e == api.OK && (len(fresh) > 0 || !slices.EqualFunc(dead, parts, func(d []int, p Part) bool { return slices.Equal(d, p.Dead) })) {
			t.Fatalf("%v: nothing makes %v of %v", parts, dead, live)
		}
	}
	if right < 7000 || right == 10000 {
		t.Error(right)
	}
}

// R3: what is handed in is not changed and not kept, what is handed out is new memory.
func TestMemory(t *testing.T) {
	parts := append(many(40), Part{Files: []api.File{file("x", "1"), file("y", "2")}, Dead: []int{0}})
	l := []api.Change{take("00"), put("x", "3")}
	before := fmt.Sprint(parts, l)
	for _, parts := range [][]Part{parts[1:], parts} {
		for _, f := range Live(parts...) {
			clear(f.Bytes)
		}
		dead, fresh, _ := Plan(parts, l)
		for i := range dead {
			for j := range dead[i] {
				dead[i][j] = -1
			}
		}
		for i := range fresh {
			clear(fresh[i].Bytes)
		}
	}
	if fmt.Sprint(parts, l) != before {
		t.Error(parts, l)
	}
}
