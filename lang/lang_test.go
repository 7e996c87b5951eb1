package lang

import (
	"math/rand"
	"slices"
	"strings"
	"testing"
)

// table is the document's table: a language, and the extensions that tell it.
const table = `c: c h
cpp: cc cpp hpp
css: css
go: go
html: html
java: java
javascript: js mjs
json: json
markdown: md
python: py
ruby: rb
rust: rs
shell: sh
sql: sql
text: txt
typescript: ts
yaml: yaml yml`

// plainTable is each extension's language, and all languages in the table's order.
func plainTable() (of map[string]string, all []string) {
	of = map[string]string{}
	for _, row := range strings.Split(table, "\n") {
		name, extensions, _ := strings.Cut(row, ": ")
		all = append(all, name)
		for _, extension := range strings.Fields(extensions) {
			of[extension] = name
		}
	}
	return of, all
}

// plainRight is the document's words of a path that is right.
func plainRight(path string) bool {
	for i := range len(path) {
		if path[i] <= 31 || path[i] == 127 {
			return false
		}
	}
	for _, part := range strings.Split(path, "/") {
		if slices.Contains([]string{"", ".", ".."}, part) {
			return false
		}
	}
	return 1 <= len(path) && len(path) <= 200
}

// plainOf is the document's words of a path's language.
func plainOf(path string) string {
	parts := strings.Split(path, "/")
	points := strings.Split(parts[len(parts)-1], ".")
	if len(points) < 2 || len(points) == 2 && points[0] == "" {
		return ""
	}
	of, _ := plainTable()
	return of[points[len(points)-1]]
}

// somePath is some parts and slashes, most of them right.
func somePath(r *rand.Rand) string {
	pieces := []string{"a", "b", "a", "/", "/", ".", ".", "..", "go", ".go", "md", "c", ".c", "yml", "\x1f", "\x7f", " ", "\xff", "é", "long.name.of.a.part", strings.Repeat("x", 90)}
	var b strings.Builder
	for range r.Intn(9) {
		b.WriteString(pieces[r.Intn(len(pieces))])
	}
	return b.String()
}

// P6.1, P6.2, and the chapter's examples.
func TestKnown(t *testing.T) {
	for _, c := range []struct {
		path  string
		right bool
		of    string
	}{
		{"a/b.go", true, "go"},
		{".go", true, ""},
		{"a//b", false, ""},
		{"../a", false, ""},
		{"x.tar.md", true, "markdown"},
		{"", false, ""},
		{"/", false, ""},
		{"//", false, ""},
		{".", false, ""},
		{"..", false, ""},
		{"...", true, ""},
		{"a", true, ""},
		{"/a.go", false, "go"},
		{"a.go/", false, ""},
		{"a.go/b", true, ""},
		{"a/./b.c", false, "c"},
		{"a/../b.c", false, "c"},
		{"a/.", false, ""},
		{"a/..", false, ""},
		{"a/...", true, ""},
		{"a/.../b", true, ""},
		{"a/.b", true, ""},
		{"a/.c", true, ""},
		{"a/..c", true, "c"},
		{"..c", true, "c"},
		{"a.", true, ""},
		{"a..", true, ""},
		{"a..c", true, "c"},
		{"a.c.", true, ""},
		{".a.c", true, "c"},
		{".c.h", true, "c"},
		{"a.C", true, ""},
		{"a.Go", true, ""},
		{"a.go ", true, ""},
		{"a. go", true, ""},
		{"a.cxx", true, ""},
		{"a.cpp2", true, ""},
		{"go", true, ""},
		{"dir.go/x/y.py", true, "python"},
		{"a b.sh", true, "shell"},
		{"a\\b.rb", true, "ruby"},
		{"a\n.go", false, "go"},
		{"\xff\xfe.sql", true, "sql"},
		{"é.txt", true, "text"},
		{"c:/a.rs", true, "rust"},
	} {
		if got := Right(c.path); got != c.right {
			t.Errorf("Right(%q) = %v", c.path, got)
		}
		if got := Of(c.path); got != c.of {
			t.Errorf("Of(%q) = %q, not %q", c.path, got, c.of)
		}
	}
}

// P6.1: from 1 to 200 bytes, in one part or in many.
func TestLengths(t *testing.T) {
	for n := range 420 {
		want := n >= 1 && n <= 200
		if got := Right(strings.Repeat("a", n)); got != want {
			t.Errorf("%d bytes: %v", n, got)
		}
		if n%2 == 1 {
			if got := Right(strings.Repeat("a/", n/2) + "a"); got != want {
				t.Errorf("%d bytes of parts: %v", n, got)
			}
		}
	}
	if Right(strings.Repeat("é", 100)) != true || Right(strings.Repeat("é", 101)) != false {
		t.Error("letters of two bytes")
	}
	if Right(strings.Repeat("a", 1<<24)) {
		t.Error("a very long path")
	}
}

// P6.1: each byte, at the begin, within, at the end of a part.
func TestBytes(t *testing.T) {
	for c := range 256 {
		b := string([]byte{byte(c)})
		for _, path := range []string{b, "a" + b, b + "a", "a" + b + "a", "x/" + b + "y", "x" + b + "/y", "x/y" + b} {
			if got, want := Right(path), plainRight(path); got != want {
				t.Errorf("Right(%q) = %v", path, got)
			}
		}
		if want := c >= 32 && c != 127 && c != '/'; Right("a"+b) != want {
			t.Errorf("the byte %d is not as it should be", c)
		}
	}
}

// P6.2: each extension has its language, in letters as they are.
func TestExtensions(t *testing.T) {
	of, _ := plainTable()
	if len(of) != 22 {
		t.Fatalf("the table has %d extensions", len(of))
	}
	for extension, want := range of {
		for _, ahead := range []string{"a.", "dir/a.", "a.b.", "..", "a.go.", "/x//.a.", strings.Repeat("long/", 100) + "z."} {
			if got := Of(ahead + extension); got != want {
				t.Errorf("Of(%q) = %q, not %q", ahead+extension, got, want)
			}
		}
		for _, path := range []string{
			extension, "." + extension, "a/." + extension, "a" + extension,
			"a." + extension + ".", "a." + extension + "/", "a." + extension + "/b", "a." + extension + ".zz",
			"a." + strings.ToUpper(extension), "a." + strings.ToUpper(extension[:1]) + extension[1:],
			"a." + extension + " ", "a. " + extension, "a." + extension + "\x00", "a." + extension + "x",
		} {
			if got := Of(path); got != plainOf(path) || got != "" {
				t.Errorf("Of(%q) = %q", path, got)
			}
		}
	}
}

// P6.2: no other short extension has one.
func TestOtherExtensions(t *testing.T) {
	of, _ := plainTable()
	for a := byte('a'); a <= 'z'; a++ {
		for b := byte('a'); b <= 'z'; b++ {
			for _, extension := range []string{string([]byte{a}), string([]byte{a, b}), string([]byte{a, b, b}), string([]byte{'c', a, b}), string([]byte{a, 'm', b})} {
				if got := Of("x." + extension); got != of[extension] {
					t.Errorf("Of(x.%s) = %q", extension, got)
				}
			}
		}
	}
}

// P6.2, R3, R4: all languages, each once, rising, in memory of their own.
func TestAll(t *testing.T) {
	_, want := plainTable()
	if !slices.IsSorted(want) {
		t.Fatal("the table does not rise")
	}
	for range 20 {
		got := All()
		if !slices.Equal(got, want) {
			t.Fatalf("All = %q", got)
		}
		got[0] = "changed"
	}
	for _, name := range want {
		if name == "" {
			t.Error("none is one of them")
		}
	}
}

// P6.1, P6.2: paths of all kinds of parts.
func TestAsPlain(t *testing.T) {
	r := rand.New(rand.NewSource(1))
	right, told := 0, 0
	for range 60000 {
		path := somePath(r)
		if got, want := Right(path), plainRight(path); got != want {
			t.Fatalf("Right(%q) = %v", path, got)
		} else if got {
			right++
		}
		if got, want := Of(path), plainOf(path); got != want {
			t.Fatalf("Of(%q) = %q, not %q", path, got, want)
		} else if got != "" {
			told++
		}
	}
	if right < 1000 || told < 1000 {
		t.Errorf("only %d were right, %d had a language", right, told)
	}
}

// P6.3: of two paths that are parted by a slash, the second one tells the language; right ones are right together, if that is not too long.
func TestWhatFollows(t *testing.T) {
	r := rand.New(rand.NewSource(2))
	for range 60000 {
		a, b := somePath(r), somePath(r)
		both := a + "/" + b
		if want := Right(a) && Right(b) && len(both) <= 200; Right(both) != want {
			t.Fatalf("Right(%q) is not %v", both, want)
		}
		if Of(both) != Of(b) {
			t.Fatalf("Of(%q) = %q, and of its second part %q", both, Of(both), Of(b))
		}
	}
}

// Ways: parts are gone through as far as one likes, and again.
func TestPartsAreLeft(t *testing.T) {
	parts := partsOf("a//b/")
	for many := range 6 {
		var got []string
		for part := range parts {
			if len(got) == many {
				break
			}
			got = append(got, part)
		}
		if want := []string{"a", "", "b", ""}; !slices.Equal(got, want[:min(many, len(want))]) {
			t.Errorf("the first %d: %q", many, got)
		}
	}
}
