package doc

import (
	"bytes"
	"fmt"
	"math/rand"
	"slices"
	"strings"
	"testing"

	"mudlark/api"
)

// checkFiles holds what is told of files against the plain words.
func checkFiles(t *testing.T, l []api.File) []api.Doc {
	t.Helper()
	var want []api.Doc
	e := api.ErrArg
	if plainFiles(l) {
		e = api.OK
		for _, f := range l {
			want = append(want, plainOf(f))
		}
	}
	if got := Files(l); got != (e == api.OK) {
		t.Fatalf("%v: %v", l, got)
	}
	docs, gotE := Of(l...)
	if !slices.Equal(docs, want) || gotE != e {
		t.Fatalf("%v: %v, %d, not %v", l, docs, gotE, want)
	}
	return docs
}

// check holds what is told of documents against the plain words.
func check(t *testing.T, l []api.Doc) {
	t.Helper()
	right := plainRight(l)
	if Right(l) != right {
		t.Fatalf("%v: right %v", l, Right(l))
	}
	b, e := Put(l)
	if !right {
		if b != nil || e != api.ErrArg {
			t.Fatalf("%v: %v, %d", l, b, e)
		}
		return
	}
	if !bytes.Equal(b, plainPut(l)) || e != api.OK {
		t.Fatalf("%v: %v, %d, not %v", l, b, e, plainPut(l))
	}
	if got, e := Get(b); !slices.Equal(got, l) || e != api.OK {
		t.Fatalf("%v: %v, %d", l, got, e)
	}
	for i, d := range l {
		if got := Find(l, d.Path); got != i {
			t.Fatalf("%v, %s: %d", l, d.Path, got)
		}
	}
}

// checkBytes holds Get of bytes: what is got is right, and put by just these bytes.
func checkBytes(t *testing.T, b []byte) (got bool) {
	t.Helper()
	l, e := Get(b)
	if e == api.OK {
		if !plainRight(l) || !bytes.Equal(plainPut(l), b) {
			t.Fatalf("%q: %v", b, l)
		}
	} else if l != nil || e != api.ErrCorrupt {
		t.Fatalf("%q: %v, %d", b, l, e)
	}
	return e == api.OK
}

// P22.1, P22.2: the chapter's example.
func TestExample(t *testing.T) {
	docs, e := Of(api.File{Path: "a.go"})
	if !slices.Equal(docs, []api.Doc{{Path: "a.go", Lang: "go"}}) || e != api.OK {
		t.Errorf("%v, %d", docs, e)
	}
	if b, e := Put(docs); string(b) != "\x01\x04a.go\x00\x00\x00\x00\x00" || e != api.OK {
		t.Errorf("%q, %d", b, e)
	}
	docs, e = Of(api.File{Path: "a", Bytes: []byte("123456789")}, api.File{Path: "b/c.py"})
	if !slices.Equal(docs, []api.Doc{{Path: "a", Sum: 0xCBF43926, Size: 9}, {Path: "b/c.py", Lang: "python"}}) || e != api.OK {
		t.Errorf("%v, %d", docs, e)
	}
	check(t, docs)
}

// P22.1, P22.2: files and documents that are right, and such as are not.
func TestRight(t *testing.T) {
	paths := func(l ...string) (files []api.File) {
		for _, p := range l {
			files = append(files, api.File{Path: p})
		}
		return files
	}
	long := strings.Repeat("a", 200)
	for i, l := range []struct {
		files []api.File
		ok    bool
	}{
		{nil, true}, {paths("a"), true}, {paths("a", "b"), true}, {paths("a", "a"), false}, {paths("b", "a"), false}, {paths(""), false}, {paths("a", ""), false}, {paths("/a"), false}, {paths("a", "b/../c"), false}, {paths("a\n"), false}, {paths(long), true}, {paths(long + "a"), false}, {paths("B", "a", "\xff"), true}, {paths("a", "B"), false},
		{[]api.File{{Path: "a", Bytes: make([]byte, 1<<20)}}, true}, {[]api.File{{Path: "a", Bytes: make([]byte, 1<<20+1)}}, false}, {[]api.File{{Path: "a", Bytes: make([]byte, 1<<20)}, {Path: "b", Bytes: make([]byte, 1<<20+1)}}, false},
	} {
		if Files(l.files) != l.ok {
			t.Errorf("%d: %v", i, Files(l.files))
		}
		check(t, checkFiles(t, l.files))
	}
	for i, l := range []struct {
		docs []api.Doc
		ok   bool
	}{
		{nil, true}, {[]api.Doc{{}}, false}, {[]api.Doc{{Path: "a"}}, true}, {[]api.Doc{{Path: "a.go"}}, false}, {[]api.Doc{{Path: "a.go", Lang: "go"}}, true}, {[]api.Doc{{Path: "a", Lang: "go"}}, false}, {[]api.Doc{{Path: "a", Sum: 1<<32 - 1}}, true},
		{[]api.Doc{{Path: "a", Size: -1}}, false}, {[]api.Doc{{Path: "a", Size: 1 << 20}}, true}, {[]api.Doc{{Path: "a", Size: 1<<20 + 1}}, false}, {[]api.Doc{{Path: "a"}, {Path: "a"}}, false}, {[]api.Doc{{Path: "b"}, {Path: "a"}}, false}, {[]api.Doc{{Path: "a"}, {Path: "b", Size: 1 << 40}}, false}, {[]api.Doc{{Path: "a//b"}}, false},
	} {
		if Right(l.docs) != l.ok {
			t.Errorf("%d: %v", i, Right(l.docs))
		}
		check(t, l.docs)
	}
}

// P22.1, P22.2: 4000, and one more.
func TestGreatest(t *testing.T) {
	var files []api.File
	for i := range 4001 {
		files = append(files, api.File{Path: fmt.Sprintf("%04d", i)})
	}
	docs := checkFiles(t, files[:4000])
	if len(docs) != 4000 {
		t.Errorf("%d", len(docs))
	}
	check(t, docs)
	checkFiles(t, files)
	docs = append(docs, api.Doc{Path: "4000"})
	check(t, docs)
	if Files(files) || Right(docs) || checkBytes(t, plainPut(docs)) {
		t.Error("4001")
	}
}

// P22.1 to P22.3, R4: files and documents of chance, right ones and others.
func TestChanceAgainstPlain(t *testing.T) {
	r := rand.New(rand.NewSource(221))
	right, wrong := 0, 0
	for range 8000 {
		l := someFiles(r)
		docs := checkFiles(t, l)
		if docs == nil {
			for _, f := range l {
				docs = append(docs, plainOf(f))
			}
		}
		check(t, docs)
		check(t, docs)
		docs = spoilt(r, docs)
		check(t, docs)
		if Right(docs) {
			right++
		} else {
			wrong++
		}
	}
	if right < 1000 || wrong < 1000 {
		t.Errorf("%d, %d", right, wrong)
	}
}

// P22.2: each kind of what may be wrong.
func TestCorrupt(t *testing.T) {
	const rest = "\x00\x00\x00\x00\x00"
	for name, b := range map[string]string{
		"nothing": "", "more behind": "\x00\x00", "too few": "\x01", "no path": "\x01\x00" + rest, "a path cut": "\x01\x02a", "no sum": "\x01\x01a", "a sum cut": "\x01\x01a\x00\x00\x00", "no size": "\x01\x01a\x00\x00\x00\x00",
		"one more told": "\x02\x01a" + rest, "one fewer told": "\x01\x01a" + rest + "\x01b" + rest, "a longer number": "\x81\x00\x01a" + rest, "a longer size": "\x01\x01a\x00\x00\x00\x00\x80\x00",
		"paths alike": "\x02\x01a" + rest + "\x01a" + rest, "paths that fall": "\x02\x01b" + rest + "\x01a" + rest, "a wrong path": "\x01\x02/a" + rest, "a great size": "\x01\x01a\x00\x00\x00\x00\x81\x80\x40", "very many": "\x80\x80\x80\x80\x80\x20",
		"a long path": "\x01\xc9\x01" + strings.Repeat("a", 201) + rest,
	} {
		if checkBytes(t, []byte(b)) {
			t.Errorf("%s: got", name)
		}
	}
	for _, b := range []string{"\x00", "\x01\x01a" + rest, "\x01\x01a\x00\x00\x00\x00\x80\x80\x40", "\x01\x01a\xff\xff\xff\xff\x01", "\x01\xc8\x01" + strings.Repeat("a", 200) + rest} {
		if !checkBytes(t, []byte(b)) {
			t.Errorf("%q", b)
		}
	}
}

// P22.2, P22.3: bytes that are changed, cut, or have more behind them: each is got as what is put by just them, or not at all.
func TestOneWay(t *testing.T) {
	r := rand.New(rand.NewSource(222))
	right := 0
	for range 20000 {
		docs, _ := Of(someFiles(r)...)
		b, _ := Put(docs)
		switch r.Intn(4) {
		case 0:
			b = b[:r.Intn(len(b)+1)]
		case 1:
			b = append(b, byte(r.Intn(3)))
		default:
			b[r.Intn(len(b))] = []byte{0, 1, 2, 64, 127, 128, byte(r.Intn(256))}[r.Intn(7)]
		}
		if checkBytes(t, b) {
			right++
		}
	}
	if right < 500 || right > 19000 {
		t.Errorf("%d", right)
	}
}

// P22.2: the first one of a path, of whatever documents.
func TestFind(t *testing.T) {
	l := []api.Doc{{Path: "b"}, {Path: ""}, {Path: "a", Size: 1}, {Path: "b"}, {Path: "a"}}
	for path, want := range map[string]int{"b": 0, "": 1, "a": 2, "c": -1, "B": -1, "ab": -1} {
		if got := Find(l, path); got != want {
			t.Errorf("%s: %d", path, got)
		}
	}
	if Find(nil, "") != -1 {
		t.Error("of none")
	}
}

// R3: arguments are as they were and not kept, what is handed out is new memory.
func TestMemory(t *testing.T) {
	files := []api.File{{Path: "a.go", Bytes: []byte("ab")}, {Path: "b"}}
	docs, _ := Of(files...)
	want := slices.Clone(docs)
	b, _ := Put(docs)
	whole := slices.Clone(b)
	got, _ := Get(b)
	got[0] = api.Doc{}
	clear(b)
	if !slices.Equal(docs, want) || string(files[0].Bytes) != "ab" || files[0].Path != "a.go" {
		t.Error("changed")
	}
	again, _ := Put(docs)
	docs[1] = api.Doc{}
	if !bytes.Equal(again, whole) {
		t.Errorf("%v", again)
	}
}

// P22.1: paths that are gone through are left where a loop ends.
func TestPathsAreLeft(t *testing.T) {
	for i, p := range paths([]api.File{{Path: "a"}, {Path: "b"}}, pathOfFile) {
		if i != 0 || p != "a" {
			t.Errorf("%d, %s", i, p)
		}
		break
	}
}
