package hit

import (
	"bytes"
	"math/rand"
	"slices"
	"strings"
	"testing"

	"mudlark/api"
	"mudlark/chance"
	"mudlark/each"
	"mudlark/prog"
	"mudlark/syntax"
)

func made(t *testing.T, regex string) []api.Inst {
	t.Helper()
	n, _, _, e := syntax.Parse(regex, api.Flags{})
	p, f := prog.Make(n)
	if e != api.OK || f != api.OK {
		t.Fatal(regex, e, f)
	}
	return p
}

// plainOf is P29.1 as its words say it.
func plainOf(p []api.Inst, f api.File, most int) []api.Hit {
	var out []api.Hit
	for _, slots := range each.Rows(p, f.Bytes, most) {
		ahead := string(f.Bytes[:slots[0]])
		line := strings.Count(ahead, "\n")
		out = append(out, api.Hit{Path: f.Path, Line: line + 1, Text: strings.Split(string(f.Bytes), "\n")[line], Start: slots[0], End: slots[1]})
	}
	return out
}

// check holds a file's hits against the plain words, and what follows of them.
func check(t *testing.T, p []api.Inst, f api.File, most int) []api.Hit {
	t.Helper()
	got := Of(p, f, most)
	if want := plainOf(p, f, most); !slices.Equal(got, want) {
		t.Fatalf("%q, %d: %v, not %v", f.Bytes, most, got, want)
	}
	if some := Some(p, f.Bytes); most > 0 && some != (len(got) > 0) {
		t.Fatalf("%q: some %v", f.Bytes, some)
	}
	for i, h := range got {
		begin := bytes.LastIndexByte(f.Bytes[:h.Start], '\n') + 1
		if i > 0 && h.Start < got[i-1].End || !bytes.HasPrefix(f.Bytes[begin:], []byte(h.Text)) || strings.Contains(h.Text, "\n") {
			t.Fatalf("%q: %v", f.Bytes, got)
		}
	}
	return got
}

// at is a hit of the file f.
func at(line int, text string, start, end int) api.Hit {
	return api.Hit{Path: "f", Line: line, Text: text, Start: start, End: end}
}

// P29.1: the chapter's example, and others.
func TestExamples(t *testing.T) {
	for i, l := range []struct {
		regex, text string
		most        int
		want        []api.Hit
	}{
		{"a+", "xa\naab", 9, []api.Hit{at(1, "xa", 1, 2), at(2, "aab", 3, 5)}},
		{"a+", "xa\naab", 1, []api.Hit{at(1, "xa", 1, 2)}},
		{"a+", "xa\naab", 0, nil}, {"a+", "xa\naab", -1 << 63, nil}, {"z", "xa\naab", 9, nil},
		{"", "a\n", 9, []api.Hit{at(1, "a", 0, 0), at(1, "a", 1, 1), at(2, "", 2, 2)}},
		{"", "", 9, []api.Hit{at(1, "", 0, 0)}},
		{"\\n", "a\r\n\nb", 9, []api.Hit{at(1, "a\r", 2, 3), at(2, "", 3, 4)}},
		{"(?s)b.*", "ab\ncd", 9, []api.Hit{at(1, "ab", 1, 5)}},
		{"[ab]", "ab\n\nba", 3, []api.Hit{at(1, "ab", 0, 1), at(1, "ab", 1, 2), at(3, "ba", 4, 5)}},
	} {
		if got := check(t, made(t, l.regex), api.File{Path: "f", Bytes: []byte(l.text)}, l.most); !slices.Equal(got, l.want) {
			t.Errorf("%d: %v", i, got)
		}
	}
	if got := check(t, made(t, "a"), api.File{Path: "/../", Bytes: []byte("a")}, 1); got[0].Path != "/../" {
		t.Error(got)
	}
}

// P29.1, P29.2: programs that are not right, and such as note nothing.
func TestWrongPrograms(t *testing.T) {
	for i, p := range [][]api.Inst{nil, {{}}, {{Kind: api.InstSplit, Next: 5}}, {{Kind: api.InstMatch}}, {{Kind: api.InstFail}}} {
		if check(t, p, api.File{Path: "f", Bytes: []byte("ab")}, 9) != nil || Some(p, []byte("ab")) {
			t.Error(i)
		}
	}
}

// P29.1 to P29.3, R4: of chance, alike each time.
func TestChance(t *testing.T) {
	r := rand.New(rand.NewSource(291))
	draw := chance.Draw(r.Intn)
	many := 0
	for range 4000 {
		n, _, _, e := syntax.Parse(draw.Regex(2), api.Flags{Lines: r.Intn(2) == 0})
		p, f := prog.Make(n)
		if e != api.OK || f != api.OK {
			continue
		}
		file := api.File{Path: "a/b.c", Bytes: draw.Text(60)}
		all := check(t, p, file, 1000)
		most := r.Intn(6)
		if got := check(t, p, file, most); !slices.Equal(got, all[:min(most, len(all))]) {
			t.Fatalf("%q: %v, not the first ones of %v", file.Bytes, got, all)
		}
		many += len(all)
	}
	if many < 20000 {
		t.Error(many)
	}
}

// R1: very many lines, and a very long one with very many hits.
func TestGreat(t *testing.T) {
	got := Of(made(t, "a"), api.File{Bytes: bytes.Repeat([]byte("a\n"), 1<<19)}, api.MaxHits)
	if len(got) != api.MaxHits || got[9999].Line != 10000 || got[9999].Text != "a" {
		t.Error(len(got))
	}
	got = Of(made(t, "b"), api.File{Bytes: append(bytes.Repeat([]byte("\n"), 1<<19), bytes.Repeat([]byte("ab"), 1<<18)...)}, api.MaxHits)
	if len(got) != api.MaxHits || got[9999].Line != 1<<19+1 || len(got[9999].Text) != 1<<19 {
		t.Error(len(got))
	}
}

// R3: what is handed in is not changed, and what is handed out is new memory.
func TestMemory(t *testing.T) {
	p, f := made(t, "a"), api.File{Path: "f", Bytes: []byte("xa\na")}
	got := Of(p, f, 9)
	if clear(f.Bytes); got[0].Text != "xa" || got[1] != at(2, "a", 3, 4) {
		t.Error(got)
	}
}
