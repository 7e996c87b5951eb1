package store

import (
	"bytes"
	"fmt"
	"math/rand"
	"slices"
	"strings"
	"testing"

	"mudlark/api"
	"mudlark/batch"
	"mudlark/crc"
	"mudlark/mani"
	"mudlark/shard"
	"mudlark/vfs"
)

func disk(t *testing.T, room int) *vfs.Disk {
	t.Helper()
	d, e := vfs.New(room)
	if e != api.OK {
		t.Fatal(e)
	}
	return d
}

func opened(t *testing.T, d *vfs.Disk) *Store {
	t.Helper()
	s, e := Open(d)
	if s == nil || e != api.OK {
		t.Fatal(e)
	}
	return s
}

func file(path, text string) api.File { return api.File{Path: path, Bytes: []byte(text)} }

// ok fails, unless all errors are OK.
func ok(t *testing.T, l ...api.Errno) {
	t.Helper()
	for i, e := range l {
		if e != api.OK {
			t.Fatal(i, e)
		}
	}
}

// say is files as a text.
func say(l []api.File) string {
	var out []string
	for _, f := range l {
		out = append(out, f.Path+"="+string(f.Bytes))
	}
	return strings.Join(out, " ")
}

// corpus is a store's corpus as a text.
func corpus(t *testing.T, s *Store) string {
	t.Helper()
	l, e := s.Corpus()
	if e != api.OK {
		t.Fatal(e)
	}
	return say(l)
}

// waits is what waits as a text.
func waits(s *Store) string {
	var out []string
	for _, c := range s.Waits() {
		out = append(out, map[bool]string{true: "-"}[c.Take]+c.Path+string(c.Bytes))
	}
	return strings.Join(out, " ")
}

func sameManifest(a, b api.Manifest) bool {
	return a.Gen == b.Gen && slices.EqualFunc(a.Shards, b.Shards, func(x, y api.ShardRef) bool {
		return x.Num == y.Num && x.Size == y.Size && x.Sum == y.Sum && slices.Equal(x.Dead, y.Dead)
	})
}

// P28.1 to P28.4: the chapter's example; each call that changes the disk, in order.
func TestExample(t *testing.T) {
	d := disk(t, 1<<20)
	s := opened(t, d)
	for i, l := range []struct {
		put, take     string
		turns         int
		files, corpus string
		gen           int
	}{
		{"a", "", 8, "m s.1", "a=a", 1}, // twice Create, Append, Sync; Rename, Sync
		{"a", "", 0, "m s.1", "a=a", 1},
		{"b", "a", 9, "m s.2", "b=b", 2}, // and a Remove
		{"c", "", 8, "m s.2 s.3", "b=b c=c", 3},
		{"", "b", 6, "m s.3", "c=c", 4}, // no shard is laid
		{"", "x", 0, "m s.3", "c=c", 4},
		{"", "c", 6, "m", "", 5},
		{"", "", 0, "m", "", 5},
	} {
		before := d.Stat().Turns
		if l.put != "" {
			ok(t, s.Put(file(l.put, l.put)))
		}
		if l.take != "" {
			ok(t, s.Take(l.take))
		}
		if d.Stat().Turns != before {
			t.Errorf("%d: turns ahead of it", i)
		}
		ok(t, s.Commit())
		if got := d.Stat().Turns - before; got != l.turns {
			t.Errorf("%d: %d turns", i, got)
		}
		if got := strings.Join(d.List(), " "); got != l.files || corpus(t, s) != l.corpus || s.Manifest().Gen != l.gen || waits(s) != "" {
			t.Errorf("%d: %s, %s, %v, %s", i, got, corpus(t, s), s.Manifest(), waits(s))
		}
		if again := opened(t, d); corpus(t, again) != l.corpus || !sameManifest(again.Manifest(), s.Manifest()) {
			t.Errorf("%d: opened again: %v", i, again.Manifest())
		}
	}
}

// P28.2: what waits, and what does not.
func TestWaits(t *testing.T) {
	s := opened(t, disk(t, 1<<20))
	ok(t, s.Put(file("b", "1"), file("a", "2")), s.Take("c", "b"), s.Put(), s.Take())
	if got := waits(s); got != "a2 -b -c" {
		t.Error(got)
	}
	if e := s.Put(file("d", ""), file("/", "")); e != api.ErrArg || waits(s) != "a2 -b -c" {
		t.Error(e, waits(s))
	}
	if e := s.Take("d", ""); e != api.ErrArg || waits(s) != "a2 -b -c" {
		t.Error(e, waits(s))
	}
	var many []string
	for i := range 398 {
		many = append(many, fmt.Sprint("x", i))
	}
	if e := s.Take(many...); e != api.ErrLong || waits(s) != "a2 -b -c" {
		t.Error(e)
	}
	ok(t, s.Take(many[1:]...), s.Drop(), s.Drop())
	if waits(s) != "" {
		t.Error(waits(s))
	}
	ok(t, s.Put(file("a", "1")), s.Commit(), s.Put(file("a", "2")), s.Put(file("b", "1")), s.Compact())
	if waits(s) != "a2 b1" || corpus(t, s) != "a=1" {
		t.Error(waits(s))
	}
}

// P28.3: Compact, of no shards, of one, of one with a dead file, of more.
func TestCompact(t *testing.T) {
	d := disk(t, 1<<20)
	s := opened(t, d)
	for i, l := range []struct {
		put, take, files string
		turns            int
	}{
		{"", "", "", 0}, {"a b", "", "m s.1", 0}, {"c", "", "m s.3", 10}, {"", "b", "m s.5", 9}, {"d e", "c", "m s.7", 10}, {"", "a d e", "m", 0},
	} {
		for _, p := range strings.Fields(l.put) {
			ok(t, s.Put(file(p, p)))
		}
		ok(t, s.Take(strings.Fields(l.take)...), s.Commit())
		want, before := corpus(t, s), d.Stat().Turns
		ok(t, s.Put(file("waits", "")), s.Compact(), s.Compact())
		if got := strings.Join(d.List(), " "); got != l.files || d.Stat().Turns-before != l.turns || corpus(t, s) != want || waits(s) != "waits" {
			t.Errorf("%d: %s, %d turns, %s", i, got, d.Stat().Turns-before, corpus(t, s))
		}
		ok(t, s.Drop())
		if m := s.Manifest(); len(m.Shards) > 1 || len(m.Shards) == 1 && m.Shards[0].Dead != nil {
			t.Errorf("%d: %v", i, m)
		}
	}
}

// P28.4: shards, and which of their files are dead.
func TestShards(t *testing.T) {
	s := opened(t, disk(t, 1<<20))
	ok(t, s.Put(file("a", "1"), file("b", "2"), file("c", "3")), s.Commit(), s.Take("a", "c"), s.Put(file("d", "4")), s.Commit())
	l, e := s.Shards()
	if e != api.OK || len(l) != 2 || !slices.Equal(l[0].Dead, []int{0, 2}) || l[1].Dead != nil || say(l[0].Shard.Files()) != "a=1 b=2 c=3" || say(l[1].Shard.Files()) != "d=4" {
		t.Error(l, e)
	}
	b, _ := shard.Make(file("d", "4"))
	if m := s.Manifest(); m.Gen != 2 || m.Shards[1].Num != 2 || m.Shards[1].Size != len(b) || m.Shards[1].Sum != crc.Sum(b) || !slices.Equal(m.Shards[0].Dead, []int{0, 2}) {
		t.Error(m)
	}
}

// P28.3: 40 shards, and one more: they are made one.
func TestManyShards(t *testing.T) {
	d := disk(t, 1<<20)
	s := opened(t, d)
	for i := range 41 {
		ok(t, s.Put(file(fmt.Sprintf("%02d", i), "x")), s.Commit())
		if want := []int{i + 1, 1}[i/40]; len(s.Manifest().Shards) != want {
			t.Errorf("%d: %v", i, s.Manifest())
		}
	}
	if l, _ := s.Corpus(); len(l) != 41 || strings.Join(d.List(), " ") != "m s.41" {
		t.Error(d.List())
	}
}

// laid is a disk with these files.
func laid(t *testing.T, files map[string][]byte) *vfs.Disk {
	t.Helper()
	d := disk(t, 1<<20)
	for name, b := range files {
		ok(t, d.Create(name), d.Append(name, b), d.Sync(name))
	}
	return d
}

// made is a shard's file, and what a manifest says of it.
func made(num int, dead []int, files ...api.File) ([]byte, api.ShardRef) {
	b, _ := shard.Make(files...)
	return b, api.ShardRef{Num: num, Size: len(b), Sum: crc.Sum(b), Dead: dead}
}

// P28.1: files that a manifest does not need are swept, in order; a Remove's error is told.
func TestSwept(t *testing.T) {
	one, ref := made(3, nil, file("a", "1"))
	m, _ := mani.Put(api.Manifest{Gen: 7, Shards: []api.ShardRef{ref}})
	files := map[string][]byte{"m": m, "s.3": one, "s.2": one, "s.8": nil, "m.new": m, "x": nil}
	d := laid(t, files)
	before := d.Stat().Turns
	if s := opened(t, d); corpus(t, s) != "a=1" || strings.Join(d.List(), " ") != "m s.3" || d.Stat().Turns != before+4 {
		t.Error(d.List())
	}
	for n := 1; n <= 4; n++ {
		d := laid(t, files)
		d.Arm(n)
		if s, e := Open(d); s != nil || e != api.ErrDown {
			t.Error(n, s, e)
		}
		d.Wake(d.Stat().Waiting)
		if got := d.Stat().Files; got != 7-n {
			t.Error(n, got)
		}
		if s := opened(t, d); corpus(t, s) != "a=1" {
			t.Error(n)
		}
	}
	d = laid(t, map[string][]byte{"s.1": one, "m.new": m})
	if s := opened(t, d); s.Manifest().Gen != 0 || corpus(t, s) != "" || len(d.List()) != 0 {
		t.Error(d.List())
	}
}

// P28.1, P28.3, P28.4: what is not as the manifest says.
func TestCorrupt(t *testing.T) {
	one, ref := made(3, nil, file("a", "1"), file("b", "2"))
	two, other := made(5, nil, file("b", "3"))
	m := func(l ...api.ShardRef) []byte {
		b, e := mani.Put(api.Manifest{Gen: 7, Shards: l})
		ok(t, e)
		return b
	}
	change := func(r api.ShardRef, f func(r *api.ShardRef)) api.ShardRef {
		f(&r)
		return r
	}
	cut := m(ref)[:15]
	for _, b := range [][]byte{nil, []byte("x"), cut, append(m(ref), 0)} {
		d := laid(t, map[string][]byte{"m": b, "s.3": one, "s.9": one})
		if s, e := Open(d); s != nil || e != api.ErrCorrupt || len(d.List()) != 3 {
			t.Errorf("%q: %d, %v", b, e, d.List())
		}
	}
	for name, files := range map[string]map[string][]byte{
		"no file":       {"m": m(ref)},
		"another size":  {"m": m(change(ref, func(r *api.ShardRef) { r.Size++ })), "s.3": one},
		"another sum":   {"m": m(change(ref, func(r *api.ShardRef) { r.Sum++ })), "s.3": one},
		"another shard": {"m": m(ref), "s.3": two},
		"no shard":      {"m": m(api.ShardRef{Num: 3, Size: 1, Sum: crc.Sum([]byte("x"))}), "s.3": []byte("x")},
		"one path":      {"m": m(ref, other), "s.3": one, "s.5": two},
		"no such dead":  {"m": m(change(ref, func(r *api.ShardRef) { r.Dead = []int{2} })), "s.3": one},
	} {
		d := laid(t, files)
		s := opened(t, d)
		before := d.Stat().Turns
		ok(t, s.Put(file("x", "")))
		l, e := s.Shards()
		c, f := s.Corpus()
		if l != nil || c != nil || e != api.ErrCorrupt || f != api.ErrCorrupt || s.Commit() != api.ErrCorrupt || s.Compact() != api.ErrCorrupt || waits(s) != "x" || d.Stat().Turns != before {
			t.Errorf("%s: %d, %d", name, e, f)
		}
	}
	d := laid(t, map[string][]byte{"m": m(change(ref, func(r *api.ShardRef) { r.Dead = []int{1} }), other), "s.3": one, "s.5": two})
	if s := opened(t, d); corpus(t, s) != "a=1 b=3" {
		t.Error(corpus(t, s))
	}
}

// P28.3: what is too much: the next Gen, files, bytes.
func TestTooMuch(t *testing.T) {
	one, ref := made(3, nil, file("a", "1"))
	for gen, want := range map[int]api.Errno{1 << 40: api.ErrLong, 1<<40 - 1: api.OK} {
		m, _ := mani.Put(api.Manifest{Gen: gen, Shards: []api.ShardRef{ref}})
		d := laid(t, map[string][]byte{"m": m, "s.3": one})
		s := opened(t, d)
		before := d.Stat().Turns
		ok(t, s.Commit(), s.Compact(), s.Put(file("b", "")))
		if e := s.Commit(); e != want || want != api.OK && (waits(s) != "b" || d.Stat().Turns != before || s.Manifest().Gen != gen) {
			t.Errorf("%d: %d", gen, e)
		}
		opened(t, d)
	}
	d := disk(t, 1<<20)
	s := opened(t, d)
	for i := range 10 {
		var l []api.File
		for j := range 400 {
			l = append(l, api.File{Path: fmt.Sprint("f", i, ".", j)})
		}
		ok(t, s.Put(l...), s.Commit())
	}
	ok(t, s.Put(file("one more", "")))
	if e := s.Commit(); e != api.ErrLong || waits(s) != "one more" {
		t.Error(e)
	}
	ok(t, s.Take("f7.7"), s.Commit(), s.Drop())
	before := d.Stat().Turns
	for i := range 23 {
		ok(t, s.Put(api.File{Path: fmt.Sprint("f", i%10, ".", i), Bytes: make([]byte, 1<<20)}))
	}
	if e := s.Commit(); e != api.ErrLong || d.Stat().Turns != before || len(s.Waits()) != 23 {
		t.Error(e)
	}
}

// P28.5: no store, and one that is down.
func TestNoStore(t *testing.T) {
	calls := func(s *Store) []api.Errno {
		l, e := s.Shards()
		c, f := s.Corpus()
		if l != nil || c != nil {
			t.Error(l, c)
		}
		return []api.Errno{e, f, s.Put(file("/", "")), s.Take(""), s.Drop(), s.Commit(), s.Compact(), s.Put()}
	}
	for _, s := range []*Store{nil, {}} {
		for i, e := range calls(s) {
			if e != api.ErrNil || s.Waits() != nil || !sameManifest(s.Manifest(), api.Manifest{}) {
				t.Error(i, e)
			}
		}
	}
	for _, d := range []*vfs.Disk{nil, {}} {
		if s, e := Open(d); s != nil || e != api.ErrNil {
			t.Error(e)
		}
	}
	d := disk(t, 1<<20)
	s := opened(t, d)
	ok(t, s.Put(file("a", "1")), s.Commit(), s.Put(file("b", "2")), d.Crash())
	if s, e := Open(d); s != nil || e != api.ErrDown {
		t.Error(e)
	}
	for range 2 {
		for i, e := range calls(s) {
			if e != api.ErrDown || waits(s) != "b2" || s.Manifest().Gen != 1 {
				t.Error(i, e)
			}
		}
		d.Wake(0)
	}
	if again := opened(t, d); corpus(t, again) != "a=1" || waits(again) != "" || s.Drop() != api.ErrDown {
		t.Error("woken")
	}
}

// R3: what is handed in is not changed and not kept, what is handed out is new memory.
func TestMemory(t *testing.T) {
	s := opened(t, disk(t, 1<<20))
	a, b := file("a", "1"), file("b", "2")
	ok(t, s.Put(a, b), s.Commit(), s.Take("a"), s.Commit(), s.Put(a))
	clear(a.Bytes)
	clear(s.Waits()[0].Bytes)
	clear(s.Waits())
	s.Manifest().Shards[0].Dead[0] = 1
	s.Manifest().Shards[0].Dead = []int{7}
	l, _ := s.Shards()
	l[0].Dead[0] = 1
	c, _ := s.Corpus()
	clear(c[0].Bytes)
	if waits(s) != "a1" || corpus(t, s) != "b=2" || s.Manifest().Shards[0].Dead[0] != 0 {
		t.Error(waits(s), corpus(t, s), s.Manifest())
	}
	copied := *s
	if ok(t, copied.Commit()); waits(s) != "" || corpus(t, s) != "a=1 b=2" {
		t.Error("a copy of a store is another one")
	}
}

// someChanges puts and takes files of few paths, and tells the files behind that.
func someChanges(t *testing.T, r *rand.Rand, s *Store, files []api.File) []api.File {
	t.Helper()
	for range 1 + r.Intn(4) {
		f := file("abcdef"[r.Intn(6):][:1], strings.Repeat("xyz\n", r.Intn(3)))
		if r.Intn(3) == 0 {
			ok(t, s.Take(f.Path))
		} else {
			ok(t, s.Put(f))
		}
	}
	behind, e := batch.Apply(files, s.Waits())
	ok(t, e)
	return behind
}

// wake wakes a disk, in a way of chance.
func wake(t *testing.T, r *rand.Rand, d *vfs.Disk) {
	t.Helper()
	var tears []int
	for range r.Intn(8) {
		tears = append(tears, r.Int()>>r.Intn(60))
	}
	ok(t, d.Wake(r.Intn(20), tears...))
}

// P28.6: whatever call finds the disk down, and however it is woken, the corpus is that of the last Commit, or of the one under way; opened again and again it is the same.
func TestCrashes(t *testing.T) {
	r := rand.New(rand.NewSource(281))
	now, perhaps, downs := 0, 0, 0
	for range 1500 {
		d := disk(t, 1<<20)
		s, files := opened(t, d), []api.File(nil)
		for range 1 + r.Intn(6) {
			behind := someChanges(t, r, s, files)
			d.Arm(r.Intn(12))
			e := s.Commit()
			if e == api.OK {
				files = behind
			} else if e != api.ErrDown {
				t.Fatal(e)
			}
			if e == api.OK && r.Intn(3) == 0 {
				e = s.Compact()
				behind = files
			}
			if d.Crash(); s.Commit() != api.ErrDown {
				t.Fatal("not down")
			}
			for range r.Intn(3) { // crashed again while it is opened
				wake(t, r, d)
				d.Arm(1 + r.Intn(3))
				if _, e := Open(d); e != api.OK && e != api.ErrDown {
					t.Fatal(e)
				}
				d.Crash()
				downs++
			}
			wake(t, r, d)
			s = opened(t, d)
			switch got := corpus(t, s); {
			case got == say(files):
				now++
			case e == api.ErrDown && got == say(behind):
				perhaps++
			default:
				t.Fatalf("%s, not %s, and not %s (%d)", got, say(files), say(behind), e)
			}
			files, _ = s.Corpus()
		}
	}
	if now < 1000 || perhaps < 100 || downs < 1000 {
		t.Error(now, perhaps, downs)
	}
}

// P28.6: a full disk: what fails changes nothing.
func TestFull(t *testing.T) {
	r := rand.New(rand.NewSource(282))
	failed := 0
	for range 600 {
		d := disk(t, 400+r.Intn(1200))
		s, files := opened(t, d), []api.File(nil)
		for range 6 {
			behind := someChanges(t, r, s, files)
			d.Full(r.Intn(4))
			names, m, l := strings.Join(d.List(), " "), s.Manifest(), waits(s)
			commit := r.Intn(4) > 0
			var e api.Errno
			if commit {
				e = s.Commit()
			} else {
				e = s.Compact()
			}
			switch {
			case e == api.ErrNoSpace:
				if failed++; strings.Join(d.List(), " ") != names || !sameManifest(s.Manifest(), m) || waits(s) != l {
					t.Fatal(d.List(), s.Manifest(), waits(s))
				}
				d.Full(0)
			case e != api.OK:
				t.Fatal(e)
			case commit:
				files = behind
			}
			if corpus(t, s) != say(files) || corpus(t, opened(t, d)) != say(files) {
				t.Fatal(corpus(t, s), say(files))
			}
		}
	}
	if failed < 300 {
		t.Error(failed)
	}
}

// P28.3: a file that has the name of one that is laid is removed first.
func TestLaid(t *testing.T) {
	d := disk(t, 1<<20)
	s := opened(t, d)
	ok(t, d.Create("m.new"), d.Append("m.new", []byte("x")), d.Create("s.1"), d.Append("s.1", []byte("y")), d.Create("t"), s.Put(file("a", "1")))
	before := d.Stat().Turns
	if ok(t, s.Commit()); d.Stat().Turns != before+11 || corpus(t, opened(t, d)) != "a=1" || strings.Join(d.List(), " ") != "m s.1" {
		t.Error(d.Stat(), d.List())
	}
}

// P28.3: where there is no space the files that were begun are removed, the manifest's first.
func TestNoSpace(t *testing.T) {
	for n, turns := range map[int]int{1: 2 + 1, 2: 3 + 2 + 2} {
		d := disk(t, 1<<20)
		s := opened(t, d)
		ok(t, s.Put(file("a", "1")))
		d.Full(n)
		if e := s.Commit(); e != api.ErrNoSpace || len(d.List()) != 0 || d.Stat().Turns != turns || waits(s) != "a1" || s.Manifest().Gen != 0 {
			t.Error(n, e, d.Stat())
		}
		d.Full(n)
		d.Arm(turns)
		if e := s.Commit(); e != api.ErrNoSpace || !d.Stat().Down || s.Commit() != api.ErrDown {
			t.Error(n, e)
		}
	}
}

// P28.6: whatever is damaged is ErrCorrupt, or was not needed.
func TestDamage(t *testing.T) {
	r := rand.New(rand.NewSource(283))
	corrupt := 0
	for range 600 {
		d := disk(t, 1<<20)
		s, files := opened(t, d), []api.File(nil)
		for range 1 + r.Intn(4) {
			files = someChanges(t, r, s, files)
			ok(t, s.Commit())
		}
		if len(d.List()) == 0 {
			continue
		}
		name := d.List()[r.Intn(len(d.List()))]
		size, _ := d.Size(name)
		if r.Intn(2) == 0 {
			ok(t, d.Flip(name, r.Intn(8*size), 1+2*r.Uint32()))
		} else {
			ok(t, d.Cut(name, r.Intn(size)))
		}
		again, e := Open(d)
		if name == "m" {
			if again != nil || e != api.ErrCorrupt || corpus(t, s) != say(files) {
				t.Fatal(e)
			}
			continue
		}
		for _, s := range []*Store{s, again} {
			l, e := s.Corpus()
			if l != nil || e != api.ErrCorrupt || s.Commit() != api.ErrCorrupt || s.Compact() != api.ErrCorrupt {
				t.Fatal(l, e)
			}
		}
		corrupt++
	}
	if corrupt < 200 {
		t.Error(corrupt)
	}
}

// P28.6, P4: without crashes the corpus is what the batches make of no files, however it is compacted and opened.
func TestLongRun(t *testing.T) {
	r := rand.New(rand.NewSource(284))
	for range 25 {
		d := disk(t, 1<<20)
		s, files := opened(t, d), []api.File(nil)
		for range 80 {
			files = someChanges(t, r, s, files)
			ok(t, s.Commit())
			if r.Intn(5) == 0 {
				ok(t, s.Compact())
			}
			if r.Intn(5) == 0 {
				s = opened(t, d)
			}
			l, e := s.Corpus()
			if e != api.OK || !slices.EqualFunc(l, files, func(a, b api.File) bool { return a.Path == b.Path && bytes.Equal(a.Bytes, b.Bytes) }) {
				t.Fatal(say(l), say(files))
			}
			if m := s.Manifest(); !mani.Right(m) || len(d.List()) != 1+len(m.Shards) && m.Gen > 0 {
				t.Fatal(m, d.List())
			}
		}
	}
}
