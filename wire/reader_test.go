package wire

import (
	"bytes"
	"math/rand"
	"slices"
	"testing"
)

// failed says whether a reader is as one that failed, for good.
func failed(r *Reader) bool {
	none := func() bool { return r.Left() == 0 && !r.OK() }
	return none() &&
		r.Number(mostNum) == 0 && none() &&
		r.Fixed() == 0 && none() &&
		r.Text(mostNum) == nil && none() &&
		r.Rising(mostNum, mostNum) == nil && none()
}

// P2.2: Read stands at the beginning; what is got stands there, then what stands behind it.
func TestGetKnown(t *testing.T) {
	b := []byte("\x00\xac\x02\xef\xcd\xab\x89\x02ab\x00\x03\x03\x00\x04\x00\x80\x80\x80\x80\x80\x20!")
	r := Read(b)
	left := len(b)
	step := func(name string, ok bool, size int) {
		t.Helper()
		left -= size
		if !ok || !r.OK() || r.Left() != left {
			t.Errorf("%s: %v, %v, %d left, not %d", name, ok, r.OK(), r.Left(), left)
		}
	}
	step("nothing yet", true, 0)
	step("0", r.Number(0) == 0, 1)
	step("300", r.Number(300) == 300, 2)
	step("fixed", r.Fixed() == 0x89ABCDEF, 4)
	step("text", string(r.Text(2)) == "ab", 3)
	step("no text", len(r.Text(0)) == 0, 1)
	step("row", slices.Equal(r.Rising(3, 9), []int{3, 4, 9}), 4)
	step("no row", len(r.Rising(0, 0)) == 0, 1)
	step("2^40", r.Number(1<<40) == 1<<40, 6)
	if r.Text(100); !failed(r) {
		t.Error("a text that is cut is there")
	}
}

// P2.2: numbers that are there, and such as are not.
func TestGetNumber(t *testing.T) {
	const none = -1
	for _, c := range []struct {
		bytes string
		most  int
		want  int
	}{
		{"", mostNum, none},
		{"\x00", 0, 0},
		{"\x00", -1, none},
		{"\x7f", 127, 127},
		{"\x7f", 126, none},
		{"\x80\x01", 128, 128},
		{"\x80\x01", 127, none},
		{"\x80", mostNum, none},
		{"\xff\xff", mostNum, none},
		{"\x80\x00", mostNum, none},
		{"\x81\x00", mostNum, none},
		{"\xff\x80\x00", mostNum, none},
		{"\x80\x80\x01", mostNum, 16384},
		{"\xff\xff\xff\xff\xff\x1f", mostNum, mostNum - 1},
		{"\x80\x80\x80\x80\x80\x20", mostNum, mostNum},
		{"\x80\x80\x80\x80\x80\x20", mostNum - 1, none},
		{"\x80\x80\x80\x80\x80\x20", 4 * mostNum, mostNum},
		{"\x81\x80\x80\x80\x80\x20", 4 * mostNum, none},
		{"\x80\x80\x80\x80\x80\x7f", 1<<63 - 1, none},
		{"\x80\x80\x80\x80\x80\x00", mostNum, none},
		{"\x80\x80\x80\x80\x80\xa0\x00", mostNum, none},
		{"\x80\x80\x80\x80\x80\x80\x01", 1<<63 - 1, none},
		{"\xff\xff\xff\xff\xff\xff\xff\xff\xff\x01", 1<<63 - 1, none},
		{"\x80\x80\x80\x80\x80\x80\x80\x80\x80\x80\x80\x80\x80\x01", 1<<63 - 1, none},
		{"\x05", -1 << 63, none},
	} {
		behinds := []string{"", "\x00", "\x01more"}
		if c.bytes == "" || c.bytes[len(c.bytes)-1] >= 128 {
			behinds = behinds[:1] // what stands behind it would be of the number
		}
		for _, behind := range behinds {
			r := Read([]byte(c.bytes + behind))
			got := r.Number(c.most)
			if c.want == none {
				if got != 0 || !failed(r) {
					t.Errorf("%q, at most %d: %d, %v", c.bytes, c.most, got, r.OK())
				}
			} else if got != c.want || !r.OK() || r.Left() != len(behind) {
				t.Errorf("%q, at most %d: %d, %v, %d left", c.bytes, c.most, got, r.OK(), r.Left())
			}
		}
	}
}

// P2.2: fixed numbers, of four bytes and fewer.
func TestGetFixed(t *testing.T) {
	for n := range 4 {
		if r := Read(make([]byte, n)); r.Fixed() != 0 || !failed(r) {
			t.Errorf("of %d bytes", n)
		}
	}
	for _, n := range []uint32{0, 1, 255, 256, 1 << 16, 1 << 24, 1 << 31, 0xFFFFFFFF, 0x01020304} {
		r := Read(append(plainFixed(n), 9))
		if got := r.Fixed(); got != n || r.Left() != 1 || !r.OK() {
			t.Errorf("%#x: %#x", n, got)
		}
	}
}

// P2.2: texts that are there, and such as are not.
func TestGetText(t *testing.T) {
	for _, c := range []struct {
		bytes string
		most  int
		want  string
		ok    bool
	}{
		{"\x00", 0, "", true},
		{"\x00", mostNum, "", true},
		{"\x00", -1, "", false},
		{"", 0, "", false},
		{"\x03abc", 3, "abc", true},
		{"\x03abc", 2, "", false},
		{"\x03abc", 1<<63 - 1, "abc", true},
		{"\x03ab", 3, "", false},
		{"\x01", 3, "", false},
		{"\x83\x00abc", 3, "", false},
		{"\x80\x80\x80\x80\x80\x20abc", 1 << 40, "", false},
		{"\xff\xff\xff\xff\xff\xff\xff\xff\x7fabc", 1<<63 - 1, "", false},
	} {
		r := Read([]byte(c.bytes))
		got := r.Text(c.most)
		if string(got) != c.want || r.OK() != c.ok || !c.ok && (got != nil || !failed(r)) || c.ok && r.Left() != 0 {
			t.Errorf("%q, at most %d: %q, %v", c.bytes, c.most, got, r.OK())
		}
	}
}

// P2.2: rows that are there, and such as are not.
func TestGetRising(t *testing.T) {
	const far = "\xff\xff\xff\xff\xff\x1f" // 2^40 - 1
	for _, c := range []struct {
		bytes      string
		many, most int
		want       []int
		ok         bool
	}{
		{"\x00", 0, 0, nil, true},
		{"\x00", 0, -1, nil, true},
		{"\x00", mostNum, -1 << 63, nil, true},
		{"\x00", -1, 5, nil, false},
		{"", 5, 5, nil, false},
		{"\x01\x00", 1, 0, []int{0}, true},
		{"\x01\x00", 1, -1, nil, false},
		{"\x01\x00", 1, -1 << 63, nil, false},
		{"\x03\x03\x00\x04", 3, 9, []int{3, 4, 9}, true},
		{"\x03\x03\x00\x04", 2, 9, nil, false},
		{"\x03\x03\x00\x04", 3, 8, nil, false},
		{"\x03\x03\x00\x04", 1<<63 - 1, 1<<63 - 1, []int{3, 4, 9}, true},
		{"\x03\x03\x00", 3, 9, nil, false},
		{"\x03\x03\x80\x00\x04", 3, 9, nil, false},
		{"\x83\x00\x03\x00\x04", 3, 9, nil, false},
		{"\x02\x09\x00", 2, 9, nil, false},
		{"\x02\x00" + far, 2, mostNum, []int{0, mostNum}, true},
		{"\x02\x00" + far, 2, mostNum - 1, nil, false},
		{"\x02\x01" + far, 2, mostNum, nil, false},
		{"\x02\x01" + far, 2, 1<<63 - 1, nil, false},
		{"\x02\x80\x80\x80\x80\x80\x20\x00", 2, 1<<63 - 1, nil, false},
		{"\x80\x80\x80\x80\x80\x20\x00\x00\x00", mostNum, mostNum, nil, false},
	} {
		for _, behind := range []string{"", "!!"} {
			if behind != "" && !c.ok {
				continue
			}
			r := Read([]byte(c.bytes + behind))
			got := r.Rising(c.many, c.most)
			if !slices.Equal(got, c.want) || r.OK() != c.ok || !c.ok && (got != nil || !failed(r)) || c.ok && r.Left() != len(behind) {
				t.Errorf("%q, %d of at most %d: %v, %v, %d left", c.bytes, c.many, c.most, got, r.OK(), r.Left())
			}
		}
	}
}

// P2.2: of no reader, and of one that Read did not tell, 0, none, false.
func TestNoReader(t *testing.T) {
	if !failed(nil) || !failed(&Reader{}) {
		t.Error("something is got")
	}
}

// P2.2: of no bytes a reader is there, and has not failed.
func TestReadNothing(t *testing.T) {
	for _, b := range [][]byte{nil, {}} {
		if r := Read(b); r == nil || !r.OK() || r.Left() != 0 {
			t.Error("of nothing")
		}
	}
}

// R3: bytes that are read stay as they are, and are not kept; what is got is new memory.
func TestReaderMemory(t *testing.T) {
	const there = "\x02ab\x02\x01\x03\x02ab"
	b := []byte(there)
	r := Read(b)
	first := r.Text(2)
	first[0] = 'x'
	_ = append(first, 9, 9, 9, 9)
	if string(b) != there {
		t.Errorf("an argument was changed: %q", b)
	}
	clear(b)
	row := r.Rising(2, 9)
	if again := r.Text(2); !slices.Equal(row, []int{1, 5}) || string(again) != "ab" || !r.OK() {
		t.Errorf("an argument was kept, or changed by what was got: %v, %q", row, again)
	}
}

// A copy of a reader goes on from where that one stood, by itself.
func TestCopyOfAReader(t *testing.T) {
	r := Read([]byte{1, 2, 3})
	r.Number(9)
	c := *r
	r.Number(0)
	if !failed(r) || c.Left() != 2 || c.Number(9) != 2 || c.Number(9) != 3 || !c.OK() {
		t.Error("a copy hangs on the other one")
	}
}

// P2.2: short bytes, all of them: each number that there is, no other one.
func TestGetAllShort(t *testing.T) {
	l := []byte{0, 1, 2, 0x1f, 0x20, 0x21, 127, 128, 129, 255}
	var walk func(b []byte)
	walk = func(b []byte) {
		for _, most := range []int{mostNum, 300} {
			checkNumber(t, b, most)
		}
		checkRising(t, b, 3, 300)
		if len(b) == 5 {
			return
		}
		for _, c := range l {
			walk(append(b[:len(b):len(b)], c))
		}
	}
	walk(nil)
}

// checkNumber holds Number against the document's words.
func checkNumber(t *testing.T, b []byte, most int) {
	t.Helper()
	r := Read(b)
	want, size := getNumber(b, most)
	if got := r.Number(most); got != want || !stands(r, b, size) {
		t.Fatalf("%v, at most %d: %d, %v, %d left; not %d, %d bytes", b, most, got, r.OK(), r.Left(), want, size)
	}
}

// checkRising holds Rising against the document's words.
func checkRising(t *testing.T, b []byte, many, most int) {
	t.Helper()
	r := Read(b)
	want, size := getRising(b, many, most)
	if size < 0 {
		want = nil
	}
	if got := r.Rising(many, most); !slices.Equal(got, want) || !stands(r, b, size) {
		t.Fatalf("%v, %d of at most %d: %v, %v, %d left; not %v, %d bytes", b, many, most, got, r.OK(), r.Left(), want, size)
	}
}

// checkText holds Text against the document's words.
func checkText(t *testing.T, b []byte, most int) {
	t.Helper()
	r := Read(b)
	want, size := getText(b, most)
	if got := r.Text(most); !bytes.Equal(got, want) || !stands(r, b, size) {
		t.Fatalf("%v, at most %d: %v, %v, %d left; not %v, %d bytes", b, most, got, r.OK(), r.Left(), want, size)
	}
}

// stands says whether a reader of b stands behind size bytes, or, if these are below 0, failed.
func stands(r *Reader, b []byte, size int) bool {
	if size < 0 {
		return failed(r)
	}
	return r.OK() && r.Left() == len(b)-size
}

// P2.2: whatever bytes, whatever is asked.
func TestGetWhatever(t *testing.T) {
	r := rand.New(rand.NewSource(3))
	l := edges()
	for range 200000 {
		b, most, many := someBytes(r), l[r.Intn(len(l))], r.Intn(6)
		checkNumber(t, b, most)
		checkText(t, b, most)
		checkRising(t, b, many, most)
	}
}

// P2.3: what is put is got, whatever stands behind it.
func TestPutIsGot(t *testing.T) {
	r := rand.New(rand.NewSource(4))
	for range 3000 {
		var w Writer
		var checks []func(r *Reader) bool
		for range r.Intn(12) {
			checks = append(checks, putSome(r, &w))
		}
		behind := someBytes(r)
		reader := Read(append(w.Bytes(), behind...))
		for _, check := range checks {
			if !check(reader) || !reader.OK() {
				t.Fatal("what was put is not got")
			}
		}
		if reader.Left() != len(behind) {
			t.Fatalf("%d left, not %d", reader.Left(), len(behind))
		}
	}
}

// putSome puts something, and tells how to see that a reader gets it, with limits that just let it through.
func putSome(r *rand.Rand, w *Writer) func(r *Reader) bool {
	switch r.Intn(4) {
	case 0:
		n := someNumber(r)
		w.Number(n)
		return func(r *Reader) bool { return r.Number(n) == n }
	case 1:
		n := r.Uint32()
		w.Fixed(n)
		return func(r *Reader) bool { return r.Fixed() == n }
	case 2:
		text := someText(r)
		w.Text(text)
		return func(r *Reader) bool { return bytes.Equal(r.Text(len(text)), text) }
	}
	row := someRow(r)
	w.Rising(row...)
	most := -1
	if len(row) > 0 {
		most = row[len(row)-1]
	}
	return func(r *Reader) bool { return slices.Equal(r.Rising(len(row), most), row) }
}

// P2.3: what is got is put by just the bytes that were gone through.
func TestGotIsPut(t *testing.T) {
	r := rand.New(rand.NewSource(5))
	got := 0
	for range 100000 {
		b := someBytes(r)
		reader := Read(b)
		var w Writer
		for range 4 {
			ahead := w.Bytes()
			getSome(r, reader, &w)
			if !reader.OK() {
				break
			}
			got++
			if now := w.Bytes(); !bytes.Equal(now, b[:len(b)-reader.Left()]) {
				t.Fatalf("%v: behind %v: %v", b, ahead, now)
			}
		}
	}
	if got < 50000 {
		t.Errorf("only %d things were got", got)
	}
}

// getSome gets something, and puts it.
func getSome(r *rand.Rand, from *Reader, to *Writer) {
	switch r.Intn(4) {
	case 0:
		to.Number(from.Number(mostNum))
	case 1:
		to.Fixed(from.Fixed())
	case 2:
		to.Text(from.Text(mostNum))
	default:
		to.Rising(from.Rising(mostNum, mostNum)...)
	}
}

// R4: one thing is answered alike each time.
func TestReadAlike(t *testing.T) {
	b := []byte("\x02\x03\x04\x02ab\x01")
	for range 5 {
		r := Read(b)
		if !slices.Equal(r.Rising(2, 8), []int{3, 8}) || string(r.Text(9)) != "ab" || r.Left() != 1 {
			t.Fatal("another answer")
		}
	}
}
