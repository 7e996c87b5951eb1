package text

import (
	"bytes"
	"math"
	"math/rand"
	"slices"
	"strings"
	"testing"
)

// plainTexts is the document's word of lines: what line feeds part.
func plainTexts(b []byte) []string { return strings.Split(string(b), "\n") }

// plainLines is where these begin.
func plainLines(b []byte) []int {
	var starts []int
	at := 0
	for _, line := range plainTexts(b) {
		starts = append(starts, at)
		at += len(line) + 1
	}
	return starts
}

// plainLine is the document's words of Line, also of starts that do not rise.
func plainLine(starts []int, at int) int {
	if i := slices.IndexFunc(starts, func(start int) bool { return start > at }); i >= 0 {
		return i
	}
	return len(starts)
}

// plainText is the document's words of Text.
func plainText(b []byte, starts []int, line int) string {
	for i, start := range starts {
		if i+1 == line && start >= 0 && start <= len(b) {
			return strings.SplitN(string(b[start:]), "\n", 2)[0]
		}
	}
	return ""
}

// short goes through all rows of few bytes, of such as tell something of lines and such as do not.
func short(yield func([]byte) bool) {
	const kinds = "a\n\r\x00\xff"
	for size := range 7 {
		codes := 1
		for range size {
			codes *= len(kinds)
		}
		b := make([]byte, size)
		for code := range codes {
			for i := range b {
				b[i] = kinds[code%len(kinds)]
				code /= len(kinds)
			}
			if !yield(b) {
				return
			}
		}
	}
}

// some is some bytes, with lines of all kinds of lengths.
func some(r *rand.Rand) []byte {
	b := make([]byte, r.Intn(2<<r.Intn(12)))
	r.Read(b)
	for range r.Intn(len(b) + 1) {
		b[r.Intn(len(b))] = 10
	}
	return b
}

// P5.1, P5.2, P5.3, and the chapter's example.
func TestKnown(t *testing.T) {
	for _, c := range []struct {
		text   string
		starts []int
		texts  []string
	}{
		{"", []int{0}, []string{""}},
		{"ab\nc", []int{0, 3}, []string{"ab", "c"}},
		{"a", []int{0}, []string{"a"}},
		{"\n", []int{0, 1}, []string{"", ""}},
		{"a\n", []int{0, 2}, []string{"a", ""}},
		{"\na", []int{0, 1}, []string{"", "a"}},
		{"\n\n\n", []int{0, 1, 2, 3}, []string{"", "", "", ""}},
		{"a\r\nb\r", []int{0, 3}, []string{"a\r", "b\r"}},
		{"\xff\n\x00\x0b\n", []int{0, 2, 5}, []string{"\xff", "\x00\x0b", ""}},
	} {
		b := []byte(c.text)
		if got := Lines(b); !slices.Equal(got, c.starts) {
			t.Errorf("Lines(%q) = %v", c.text, got)
		}
		for i, want := range c.texts {
			if got := Text(b, c.starts, i+1); got != want {
				t.Errorf("Text(%q, %d) = %q, not %q", c.text, i+1, got, want)
			}
		}
	}
	starts := []int{0, 3}
	for at, want := range []int{1, 1, 1, 2, 2} {
		if got := Line(starts, at); got != want {
			t.Errorf("Line(%v, %d) = %d, not %d", starts, at, got, want)
		}
	}
}

// P5.1: of no bytes there is one line, nil or not (R6).
func TestNothing(t *testing.T) {
	for _, b := range [][]byte{nil, {}} {
		if got := Lines(b); !slices.Equal(got, []int{0}) {
			t.Errorf("Lines = %v", got)
		}
		if got := Text(b, []int{0}, 1); got != "" {
			t.Errorf("Text = %q", got)
		}
		if got := Text(b, []int{0, 1}, 2); got != "" {
			t.Errorf("Text = %q", got)
		}
	}
	for _, starts := range [][]int{nil, {}} {
		if Line(starts, 0) != 0 || Line(starts, 9) != 0 || Text([]byte("ab"), starts, 1) != "" {
			t.Error("of no starts")
		}
	}
}

// P5.1: only the byte 10 is a line feed.
func TestFeeds(t *testing.T) {
	for c := range 256 {
		b := []byte{'a', byte(c), 'b'}
		want := []int{0}
		if c == 10 {
			want = []int{0, 2}
		}
		if got := Lines(b); !slices.Equal(got, want) {
			t.Errorf("Lines(%v) = %v", b, got)
		}
	}
}

// P5.1 to P5.3: all rows of few bytes, at all places and lines, and at such as there are not.
func TestShort(t *testing.T) {
	for b := range short {
		starts := Lines(b)
		if !slices.Equal(starts, plainLines(b)) {
			t.Fatalf("Lines(%q) = %v", b, starts)
		}
		for at := -2; at < len(b)+3; at++ {
			if got, want := Line(starts, at), plainLine(starts, at); got != want {
				t.Fatalf("Line(%v, %d) = %d, not %d", starts, at, got, want)
			}
		}
		texts := plainTexts(b)
		for line := -2; line < len(texts)+3; line++ {
			want := ""
			if line >= 1 && line <= len(texts) {
				want = texts[line-1]
			}
			if got := Text(b, starts, line); got != want {
				t.Fatalf("Text(%q, %d) = %q, not %q", b, line, got, want)
			}
		}
	}
}

// P5.2: starts of any kind, rising or not, at any place.
func TestLine(t *testing.T) {
	for _, c := range []struct {
		starts []int
		at     int
		want   int
	}{
		{[]int{0}, 0, 1},
		{[]int{0}, -1, 0},
		{[]int{0}, math.MinInt, 0},
		{[]int{0, 3, 9}, math.MaxInt, 3},
		{[]int{0, 3, 9}, 9, 3},
		{[]int{0, 3, 9}, 8, 2},
		{[]int{5}, 4, 0},
		{[]int{0, 9, 3}, 5, 1},
		{[]int{0, 9, 3}, 9, 3},
		{[]int{9, 0, 3}, 5, 0},
		{[]int{9, 0, 3, 1, 2}, 8, 0},
		{[]int{0, 3, 1, 2, 9, 4}, 4, 4},
		{[]int{3, 3, 3}, 3, 3},
		{[]int{3, 3, 3}, 2, 0},
		{[]int{-4, -2}, -3, 1},
		{[]int{math.MinInt, math.MaxInt}, 0, 1},
		{[]int{math.MinInt, math.MaxInt}, math.MinInt, 1},
	} {
		if got := Line(c.starts, c.at); got != c.want {
			t.Errorf("Line(%v, %d) = %d, not %d", c.starts, c.at, got, c.want)
		}
	}
	r := rand.New(rand.NewSource(1))
	for range 20000 {
		starts := make([]int, r.Intn(12))
		for i := range starts {
			starts[i] = r.Intn(20) - 2
		}
		if r.Intn(2) == 0 {
			slices.Sort(starts)
		}
		at := r.Intn(24) - 4
		if got, want := Line(starts, at), plainLine(starts, at); got != want {
			t.Fatalf("Line(%v, %d) = %d, not %d", starts, at, got, want)
		}
	}
}

// P5.3: starts of any kind: a line begins where they say, if that is a place.
func TestText(t *testing.T) {
	b := []byte("ab\ncd\r\n")
	for _, c := range []struct {
		start int
		want  string
	}{
		{0, "ab"},
		{1, "b"},
		{2, ""},
		{3, "cd\r"},
		{6, ""},
		{7, ""},
		{8, ""},
		{-1, ""},
		{math.MinInt, ""},
		{math.MaxInt, ""},
	} {
		for _, starts := range [][]int{{c.start}, {c.start, 0}, {c.start, c.start + 1}} {
			if got := Text(b, starts, 1); got != c.want {
				t.Errorf("Text(%v, 1) = %q, not %q", starts, got, c.want)
			}
		}
		if got := Text(b, []int{4, 3, c.start}, 3); got != c.want {
			t.Errorf("Text(.. %d, 3) = %q, not %q", c.start, got, c.want)
		}
	}
	for _, line := range []int{0, -1, 3, math.MinInt, math.MaxInt} {
		if got := Text(b, []int{0, 3}, line); got != "" {
			t.Errorf("Text of the line %d = %q", line, got)
		}
	}
	r := rand.New(rand.NewSource(2))
	for range 5000 {
		b := some(r)
		starts := []int{r.Intn(len(b)+4) - 2, r.Intn(len(b) + 1), 0}
		line := r.Intn(6) - 1
		if got, want := Text(b, starts, line), plainText(b, starts, line); got != want {
			t.Fatalf("Text(%q, %v, %d) = %q, not %q", b, starts, line, got, want)
		}
	}
}

// P5.4: the lines' texts, parted by line feeds, are the bytes; each place stands in its line.
func TestWhatFollows(t *testing.T) {
	r := rand.New(rand.NewSource(3))
	for range 400 {
		b := some(r)
		starts := Lines(b)
		var texts []string
		for i := range starts {
			texts = append(texts, Text(b, starts, i+1))
		}
		if strings.Join(texts, "\n") != string(b) {
			t.Fatalf("the lines of %q are %q", b, texts)
		}
		for range 20 {
			at := r.Intn(len(b) + 1)
			line := Line(starts, at)
			if line < 1 || line > len(starts) || at < starts[line-1] || line < len(starts) && at >= starts[line] {
				t.Fatalf("the place %d of %q stands in line %d", at, b, line)
			}
		}
	}
}

// A file of the greatest size, of one line and of nothing but line feeds.
func TestGreat(t *testing.T) {
	const size = 1 << 20
	feeds := bytes.Repeat([]byte("\n"), size)
	starts := Lines(feeds)
	if len(starts) != size+1 || starts[size] != size || Line(starts, size) != size+1 || Line(starts, 7) != 8 {
		t.Errorf("%d lines", len(starts))
	}
	one := bytes.Repeat([]byte("x"), size)
	if got := Lines(one); !slices.Equal(got, []int{0}) || Text(one, got, 1) != string(one) {
		t.Errorf("%d lines", len(got))
	}
}

// R3: what is handed in stays as it is; what is handed out is new memory.
func TestMemory(t *testing.T) {
	b, starts := []byte("ab\ncd"), []int{0, 3}
	lines := Lines(b)
	line := Text(b, starts, 2)
	Line(starts, 1)
	if string(b) != "ab\ncd" || !slices.Equal(starts, []int{0, 3}) {
		t.Error("an argument was changed")
	}
	clear(b)
	if line != "cd" || !slices.Equal(lines, []int{0, 3}) {
		t.Error("what was handed out shares memory with an argument")
	}
}

// Ways: places are gone through as far as one likes.
func TestPlacesAreLeft(t *testing.T) {
	b := []byte("a\nb\nc\n")
	for many := range 5 {
		var got []int
		for at := range begins(b) {
			if len(got) == many {
				break
			}
			got = append(got, at)
		}
		if want := []int{0, 2, 4, 6}; !slices.Equal(got, want[:min(many, len(want))]) {
			t.Errorf("the first %d: %v", many, got)
		}
	}
}
