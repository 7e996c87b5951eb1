package wire

import (
	"bytes"
	"math/rand"
	"slices"
	"strings"
	"testing"
)

// written are the bytes of what a put puts into an empty writer.
func written(put func(w *Writer)) []byte {
	var w Writer
	put(&w)
	return w.Bytes()
}

// P2.1, and the chapter's examples: bytes that are known.
func TestPutKnown(t *testing.T) {
	for _, c := range []struct {
		name string
		put  func(w *Writer)
		want string
	}{
		{"nothing", func(w *Writer) {}, ""},
		{"no numbers", func(w *Writer) { w.Number() }, ""},
		{"0", func(w *Writer) { w.Number(0) }, "\x00"},
		{"127", func(w *Writer) { w.Number(127) }, "\x7f"},
		{"128", func(w *Writer) { w.Number(128) }, "\x80\x01"},
		{"300", func(w *Writer) { w.Number(300) }, "\xac\x02"},
		{"16383", func(w *Writer) { w.Number(16383) }, "\xff\x7f"},
		{"16384", func(w *Writer) { w.Number(16384) }, "\x80\x80\x01"},
		{"2^40 - 1", func(w *Writer) { w.Number(1<<40 - 1) }, "\xff\xff\xff\xff\xff\x1f"},
		{"2^40", func(w *Writer) { w.Number(1 << 40) }, "\x80\x80\x80\x80\x80\x20"},
		{"numbers", func(w *Writer) { w.Number(1, 300, 0) }, "\x01\xac\x02\x00"},
		{"fixed 0", func(w *Writer) { w.Fixed(0) }, "\x00\x00\x00\x00"},
		{"fixed", func(w *Writer) { w.Fixed(0x89ABCDEF) }, "\xef\xcd\xab\x89"},
		{"fixed, all bits", func(w *Writer) { w.Fixed(0xFFFFFFFF) }, "\xff\xff\xff\xff"},
		{"no texts", func(w *Writer) { w.Text() }, ""},
		{"empty texts", func(w *Writer) { w.Text(nil, []byte{}) }, "\x00\x00"},
		{"texts", func(w *Writer) { w.Text([]byte("ab"), nil, []byte("c")) }, "\x02ab\x00\x01c"},
		{"200 bytes", func(w *Writer) { w.Text(bytes.Repeat([]byte("x"), 200)) }, "\xc8\x01" + strings.Repeat("x", 200)},
		{"an empty row", func(w *Writer) { w.Rising() }, "\x00"},
		{"the row 0", func(w *Writer) { w.Rising(0) }, "\x01\x00"},
		{"the row 3, 4, 9", func(w *Writer) { w.Rising(3, 4, 9) }, "\x03\x03\x00\x04"},
		{"the row 0, 2^40", func(w *Writer) { w.Rising(0, 1<<40) }, "\x02\x00\xff\xff\xff\xff\xff\x1f"},
		{"all", func(w *Writer) {
			w.Text([]byte("a"))
			w.Rising(1)
			w.Fixed(1)
			w.Number(1)
			w.Text([]byte("b"))
		}, "\x01a\x01\x01\x01\x00\x00\x00\x01\x01b"},
	} {
		if got := written(c.put); string(got) != c.want {
			t.Errorf("%s: %q, not %q", c.name, got, c.want)
		}
	}
}

// P2.1: each number's bytes, and none of what is no number.
func TestPutNumber(t *testing.T) {
	for _, n := range edges() {
		var want []byte
		if isNumber(n) {
			want = plainNumber(n)
		}
		if got := written(func(w *Writer) { w.Number(n) }); !bytes.Equal(got, want) {
			t.Errorf("%d: %v, not %v", n, got, want)
		}
	}
	for n := range 1 << 15 {
		if got, want := written(func(w *Writer) { w.Number(n) }), plainNumber(n); !bytes.Equal(got, want) {
			t.Fatalf("%d: %v, not %v", n, got, want)
		}
	}
}

// P2.1: rows of whatever numbers: their bytes, or none.
func TestPutRising(t *testing.T) {
	l := edges()
	for _, a := range l {
		for _, b := range l {
			row := []int{a, b}
			var want []byte
			if isRising(row) {
				want = plainRising(row)
			}
			if got := written(func(w *Writer) { w.Rising(row...) }); !bytes.Equal(got, want) {
				t.Fatalf("%v: %v, not %v", row, got, want)
			}
		}
	}
	r := rand.New(rand.NewSource(1))
	for range 3000 {
		row := someRow(r)
		if got, want := written(func(w *Writer) { w.Rising(row...) }), plainRising(row); !bytes.Equal(got, want) {
			t.Fatalf("%v: %v, not %v", row, got, want)
		}
	}
}

// failing are puts of what is no number, no rising row.
func failing() map[string]func(w *Writer) {
	return map[string]func(w *Writer){
		"-1":                   func(w *Writer) { w.Number(-1) },
		"2^40 + 1":             func(w *Writer) { w.Number(1<<40 + 1) },
		"the last one of some": func(w *Writer) { w.Number(1, 2, -1) },
		"the first one":        func(w *Writer) { w.Number(-1, 1, 2) },
		"a row of -1":          func(w *Writer) { w.Rising(-1) },
		"a row from -1 on":     func(w *Writer) { w.Rising(-1, 0, 1) },
		"a row above 2^40":     func(w *Writer) { w.Rising(1, 1<<40+1) },
		"a row of 2^40 + 1":    func(w *Writer) { w.Rising(1<<40 + 1) },
		"a row that stays":     func(w *Writer) { w.Rising(1, 2, 2) },
		"a row that falls":     func(w *Writer) { w.Rising(1, 2, 0) },
		"a row that ends low":  func(w *Writer) { w.Rising(7, 9, -1) },
	}
}

// P2.1: a writer that failed has none from then on, whatever was put ahead, whatever is put behind.
func TestPutFails(t *testing.T) {
	for name, fail := range failing() {
		var w Writer
		w.Number(5)
		w.Text([]byte("kept"))
		fail(&w)
		if w.Bytes() != nil {
			t.Errorf("%s: %v", name, w.Bytes())
		}
		for _, put := range []func(){
			func() { w.Number() },
			func() { w.Number(1, 2) },
			func() { w.Fixed(7) },
			func() { w.Text([]byte("ab"), nil) },
			func() { w.Rising(1, 2) },
			func() { w.Rising() },
			func() { fail(&w) },
		} {
			if put(); w.Bytes() != nil {
				t.Errorf("%s: then %v", name, w.Bytes())
			}
		}
	}
}

// P2.1: of no writer nothing, none.
func TestNoWriter(t *testing.T) {
	var w *Writer
	w.Number(1, -1)
	w.Fixed(1)
	w.Text([]byte("a"), nil)
	w.Rising(1, 2)
	w.Rising(2, 1)
	w.Rising()
	if w.Bytes() != nil {
		t.Error("bytes of no writer")
	}
}

// P2.1: Bytes tells what was put so far, and does not end the writer.
func TestBytesOnAndOn(t *testing.T) {
	var w Writer
	var want []byte
	r := rand.New(rand.NewSource(2))
	for range 400 {
		n := someNumber(r)
		w.Number(n)
		want = append(want, plainNumber(n)...)
		if !bytes.Equal(w.Bytes(), want) || !bytes.Equal(w.Bytes(), want) {
			t.Fatalf("%v, not %v", w.Bytes(), want)
		}
	}
}

// R3: what is put stays as it is, and is not kept; what is told is new memory.
func TestWriterMemory(t *testing.T) {
	var w Writer
	texts, row, numbers := [][]byte{[]byte("ab"), []byte("cd")}, []int{1, 5}, []int{3, 4}
	w.Text(texts...)
	w.Rising(row...)
	w.Number(numbers...)
	if string(texts[0]) != "ab" || string(texts[1]) != "cd" || !slices.Equal(row, []int{1, 5}) || !slices.Equal(numbers, []int{3, 4}) {
		t.Error("an argument was changed")
	}
	const want = "\x02ab\x02cd\x02\x01\x03\x03\x04"
	texts[0][0], texts[1], row[0], numbers[0] = 'x', nil, 9, 9
	if got := w.Bytes(); string(got) != want {
		t.Errorf("an argument was kept: %q", got)
	}
	first := w.Bytes()
	first[0] = 'x'
	_ = append(first[:2], "yyyyyyyy"...)
	if got := w.Bytes(); string(got) != want {
		t.Errorf("bytes that were told were kept: %q", got)
	}
	kept := w.Bytes()
	w.Number(7)
	w.Number(-1)
	if string(kept) != want {
		t.Errorf("bytes that were told were changed: %q", kept)
	}
}

// A copy of a writer has what was put; what one puts then the other one does not have, however much room they have.
func TestCopies(t *testing.T) {
	for many := range 70 {
		var a Writer
		a.Text(bytes.Repeat([]byte("x"), many))
		start := string(a.Bytes())
		b := a
		a.Number(1)
		c := a
		a = b
		a.Number(2)
		b.Number(3)
		b.Number(4)
		d := b
		d.Number(-1)
		c.Number(5)
		for _, got := range []struct {
			w    *Writer
			want string
		}{{&a, start + "\x02"}, {&b, start + "\x03\x04"}, {&c, start + "\x01\x05"}} {
			if string(got.w.Bytes()) != got.want {
				t.Fatalf("behind %d bytes: %q, not %q", many, got.w.Bytes(), got.want)
			}
		}
		if d.Bytes() != nil {
			t.Fatal("a copy that failed has bytes")
		}
	}
	var none Writer
	other := none
	none.Number(1)
	other.Number(2)
	if string(none.Bytes()) != "\x01" || string(other.Bytes()) != "\x02" {
		t.Error("copies of an empty writer are one")
	}
}

// Ways: a number's bytes may be gone through in part, and again.
func TestBytesOfANumber(t *testing.T) {
	l := bytesOf(1 << 20)
	for range l {
		break
	}
	for range 2 {
		if got := slices.Collect(l); !bytes.Equal(got, plainNumber(1<<20)) {
			t.Errorf("%v", got)
		}
	}
}
