package frame

import (
	"bytes"
	"encoding/binary"
	"hash/crc32"
	"math"
	"math/rand"
	"slices"
	"testing"

	"mudlark/api"
)

// mostBytes is how many bytes a file has at most (2^26).
const mostBytes = 67108864

// P3.1, P3.2, and the chapter's example: files byte by byte.
func TestKnown(t *testing.T) {
	for _, c := range []struct {
		parts []api.Part
		want  []byte
	}{
		{nil, []byte{8, 0, 0, 0}},
		{[]api.Part{{}}, []byte{10, 0, 0, 0, 0, 0}},
		{[]api.Part{{Tag: 7, Bytes: []byte("ab")}}, []byte{12, 0, 0, 0, 7, 2, 'a', 'b'}},
		{[]api.Part{{Tag: 255, Bytes: []byte("x")}, {Tag: 128}, {Tag: 255, Bytes: []byte{0}}}, []byte{16, 0, 0, 0, 255, 1, 'x', 128, 0, 255, 1, 0}},
	} {
		want := binary.LittleEndian.AppendUint32(c.want, crc32.ChecksumIEEE(c.want))
		if got, e := Put(c.parts...); e != api.OK || !bytes.Equal(got, want) {
			t.Errorf("Put(%v) = %v, %d, not %v", c.parts, got, e, want)
		}
		if got, e := Get(want); e != api.OK || !sameParts(got, c.parts) {
			t.Errorf("Get(%v) = %v, %d, not %v", want, got, e, c.parts)
		}
	}
}

// P3.1, P3.2, P3.4: parts of all kinds of sizes and tags are put as the document's words say, and got.
func TestPutGet(t *testing.T) {
	r := rand.New(rand.NewSource(1))
	for range 400 {
		parts := someParts(r)
		want := plainSealed(plainBody(parts))
		file, e := Put(parts...)
		if e != api.OK || !bytes.Equal(file, want) {
			t.Fatalf("Put of %d parts: not their file (%d)", len(parts), e)
		}
		if got, e := Get(file); e != api.OK || !sameParts(got, parts) {
			t.Fatalf("Get of %d parts: not what was put (%d)", len(parts), e)
		}
	}
}

// P3.1, P3.2: each tag, ahead of each size of few bytes.
func TestTags(t *testing.T) {
	for tag := range 256 {
		for _, n := range []int{0, 1, 127, 128} {
			parts := []api.Part{{Tag: byte(tag), Bytes: make([]byte, n)}, {Tag: byte(tag)}}
			file, _ := Put(parts...)
			if !bytes.Equal(file, plainSealed(plainBody(parts))) {
				t.Fatalf("Put of tag %d with %d bytes", tag, n)
			}
			if got, e := Get(file); e != api.OK || !sameParts(got, parts) {
				t.Fatalf("Get of tag %d with %d bytes: %d", tag, n, e)
			}
		}
	}
}

// P3.1, P3.2: a file has 2^26 bytes at most.
func TestGreatest(t *testing.T) {
	text := make([]byte, mostBytes-8-5-2+1) // a tag and four bytes of its size ahead of it, an empty part behind it
	last := api.Part{Tag: 9}
	file, e := Put(api.Part{Tag: 200, Bytes: text[1:]}, last)
	if e != api.OK || len(file) != mostBytes || !bytes.Equal(file[:9], []byte{0, 0, 0, 4, 200, 0xF1, 0xFF, 0xFF, 0x1F}) {
		t.Fatalf("Put of the greatest file: %d bytes, %d", len(file), e)
	}
	if sum := binary.LittleEndian.Uint32(file[mostBytes-4:]); sum != crc32.ChecksumIEEE(file[:mostBytes-4]) {
		t.Fatalf("the greatest file's sum is %#x", sum)
	}
	if got, e := Get(file); e != api.OK || !sameParts(got, []api.Part{{Tag: 200, Bytes: text[1:]}, last}) {
		t.Errorf("Get of the greatest file: %d parts, %d", len(got), e)
	}
	if file, e := Put(api.Part{Tag: 200, Bytes: text}, last); e != api.ErrLong || file != nil {
		t.Errorf("Put of one byte more: %d bytes, %d", len(file), e)
	}
	if got, e := Get(plainSealed(plainBody([]api.Part{{Tag: 200, Bytes: text}, last}))); e != api.ErrCorrupt || got != nil {
		t.Errorf("Get of one byte more: %d parts, %d", len(got), e)
	}
}

// P3.1: parts that are far too many together, though each one is not; they are told off without a file of them.
func TestFarTooLong(t *testing.T) {
	text := make([]byte, mostBytes)
	for _, many := range []int{1, 2, 64, 65, 100000} {
		parts := slices.Repeat([]api.Part{{Tag: 1, Bytes: text}}, many)
		if file, e := Put(parts...); e != api.ErrLong || file != nil {
			t.Errorf("Put of %d parts of 2^26 bytes: %d bytes, %d", many, len(file), e)
		}
	}
	const each = 66 // a tag, a byte of its size, 64 bytes
	small := slices.Repeat([]api.Part{{Tag: 1, Bytes: text[:each-2]}}, (mostBytes-8)/each+1)
	if file, e := Put(small...); e != api.ErrLong || file != nil {
		t.Errorf("Put of %d small parts: %d bytes, %d", len(small), len(file), e)
	}
	if file, e := Put(small[1:]...); e != api.OK || len(file) != 8+each*(len(small)-1) {
		t.Errorf("Put of %d small parts: %d bytes, %d", len(small)-1, len(file), e)
	}
}

// P3.1, P3.2: very many parts take no more time than their bytes do.
func TestManyParts(t *testing.T) {
	const many = 300000
	parts := slices.Repeat([]api.Part{{Tag: 3}, {Tag: 4, Bytes: []byte("z")}}, many)
	file, e := Put(parts...)
	if e != api.OK || len(file) != 8+5*many {
		t.Fatalf("%d bytes, %d", len(file), e)
	}
	if got, e := Get(file); e != api.OK || !sameParts(got, parts) {
		t.Fatalf("%d parts, %d", len(got), e)
	}
}

// P3.2, P3.4: a body of few bytes, with the size and the sum that belong to it, is got just if it is parts' bytes, and put by just these.
func TestBodies(t *testing.T) {
	const often = "\x00\x01\x02\x03\x05\x7f\x80\x81\x82\xff"
	count := 0
	for size := range 6 {
		body := make([]byte, size)
		for code := range int(math.Pow(float64(len(often)), float64(size))) {
			for i := range body {
				body[i] = often[code%len(often)]
				code /= len(often)
			}
			if checkBody(t, body) {
				count++
			}
		}
	}
	if count < 1000 {
		t.Errorf("only %d bodies were parts", count)
	}
}

// checkBody holds Get of a body against the document's words, and says whether it is parts.
func checkBody(t *testing.T, body []byte) bool {
	t.Helper()
	want, ok := plainParts(body)
	file := plainSealed(body)
	got, e := Get(file)
	switch {
	case !ok && (e != api.ErrCorrupt || got != nil):
		t.Fatalf("Get of the body %v = %v, %d, not ErrCorrupt", body, got, e)
	case ok && (e != api.OK || !sameParts(got, want)):
		t.Fatalf("Get of the body %v = %v, %d, not %v", body, got, e, want)
	}
	if again, e := Put(got...); ok && (e != api.OK || !bytes.Equal(again, file)) {
		t.Fatalf("the body %v is put otherwise: %v, %d", body, again, e)
	}
	return ok
}

// P3.2: parts of which some bytes are others, with the size and the sum that belong to it.
func TestBentBodies(t *testing.T) {
	r := rand.New(rand.NewSource(2))
	for range 3000 {
		body := plainBody(someParts(r))
		if len(body) > 2000 {
			continue
		}
		for range 1 + r.Intn(3) {
			switch at := r.Intn(len(body) + 1); {
			case r.Intn(3) == 0:
				body = slices.Insert(body, at, byte(r.Intn(256)))
			case at < len(body) && r.Intn(2) == 0:
				body = slices.Delete(body, at, at+1)
			case at < len(body):
				body[at] = byte(r.Intn(256))
			}
		}
		checkBody(t, body)
	}
}

// P3.2: sizes of parts that are no number, or more than there is, though size and sum are right.
func TestWrongBodies(t *testing.T) {
	for _, body := range []string{
		"\x01",                             // a tag alone
		"\x80",                             // likewise
		"\x01\x00\x02",                     // likewise, behind a part
		"\x01\x80",                         // a number without end
		"\x01\xff\xff\xff",                 // likewise
		"\x01\x80\x00",                     // a number of more bytes than needed
		"\x01\x81\x00x",                    // likewise
		"\x01\x80\x80\x80\x80\x80\x00",     // likewise
		"\x01\x80\x80\x80\x80\x80\x80\x00", // likewise, longer than any number
		"\x01\x81\x80\x80\x80\x80\x80\x80\x80\x80\x00x", // likewise
		"\x01\x01",                      // a text of a byte, and none
		"\x01\x03ab",                    // one too few
		"\x01\x02abc",                   // one too many: a tag alone
		"\x01\x80\x80\x80\x20",          // 2^26
		"\x01\x81\x80\x80\x20x",         // above that
		"\x01\x80\x80\x80\x80\x80\x20",  // 2^40
		"\x01\x81\x80\x80\x80\x80\x20x", // above that
		"\x01\xff\xff\xff\xff\xff\xff\xff\xff\x7fxxxxxxxx", // 2^63 - 1
		"\x01\xff\xff\xff\xff\xff\xff\xff\xff\xff\x01xxxx", // 2^64 - 1
	} {
		if checkBody(t, []byte(body)) {
			t.Errorf("%q is parts", body)
		}
	}
}

// P3.2: what is too short for a file, or tells another size, or another sum, than it has.
func TestWrongFiles(t *testing.T) {
	seal := func(head string) []byte {
		return binary.LittleEndian.AppendUint32([]byte(head), crc32.ChecksumIEEE([]byte(head)))
	}
	for _, b := range [][]byte{
		nil,
		{},
		{0},
		{0, 0, 0},
		{0, 0, 0, 0},
		{4, 0, 0, 0},
		{8, 0, 0, 0},
		{8, 0, 0, 0, 0, 0, 0, 0},
		seal(""),
		seal("\x05"),
		seal("\x07\x00\x00"),
		seal("\x00\x00\x00\x00"),
		seal("\x07\x00\x00\x00"),
		seal("\x09\x00\x00\x00"),
		seal("\x00\x00\x00\x08"),
		seal("\x08\x00\x00\x01"),
		seal("\x08\x00\x00\x00\x01\x00"),
		seal("\x04\x00\x00\x00\x01\x00"),
		seal("\x06\x00\x00\x00\x01\x00"),
		seal("\x02\x00\x00\x00\x01\x00"),
		append(seal("\x0a\x00\x00\x00\x01\x00"), 0),
	} {
		if got, e := Get(b); e != api.ErrCorrupt || got != nil {
			t.Errorf("Get(%v) = %v, %d", b, got, e)
		}
	}
	if _, e := Get(seal("\x0a\x00\x00\x00\x01\x00")); e != api.OK {
		t.Error("a file that is right is none")
	}
}

// P3.3: bursts byte by byte.
func TestBurstKnown(t *testing.T) {
	for _, c := range []struct {
		b    string
		bit  int
		mask uint32
		want string
	}{
		{"\x00\x00\x00\x00\x00", 0, 1, "\x01\x00\x00\x00\x00"},
		{"\x00\x00\x00\x00\x00", 7, 3, "\x80\x01\x00\x00\x00"},
		{"\xff\x00\x00\x00\x00", 4, 0x8000000f, "\x0f\x00\x00\x00\x08"},
		{"\x00\x00\x00\x00\x00", 8, math.MaxUint32, "\x00\xff\xff\xff\xff"},
		{"\x00\x00\x00\x00\x00", 9, math.MaxUint32, "\x00\xfe\xff\xff\xff"},
		{"\x00\x00\x00\x00\x00", 39, math.MaxUint32, "\x00\x00\x00\x00\x80"},
		{"\x00\x00\x00\x00\x00", 39, 2, "\x00\x00\x00\x00\x00"},
		{"\x00\x00\x00\x00\x00", 40, math.MaxUint32, "\x00\x00\x00\x00\x00"},
		{"\x00\x00\x00\x00\x00", math.MaxInt, math.MaxUint32, "\x00\x00\x00\x00\x00"},
		{"\x00\x00\x00\x00\x00", -1, math.MaxUint32, "\x00\x00\x00\x00\x00"},
		{"\x00\x00\x00\x00\x00", -31, math.MaxUint32, "\x00\x00\x00\x00\x00"},
		{"\x00\x00\x00\x00\x00", math.MinInt, math.MaxUint32, "\x00\x00\x00\x00\x00"},
		{"\x00\x00\x00\x00\x00", 3, 0, "\x00\x00\x00\x00\x00"},
		{"", 0, math.MaxUint32, ""},
		{"", -1, 1, ""},
	} {
		if got := Burst([]byte(c.b), c.bit, c.mask); string(got) != c.want {
			t.Errorf("Burst(%q, %d, %#x) = %q, not %q", c.b, c.bit, c.mask, got, c.want)
		}
	}
}

// P3.3: rows of few bytes, from each bit on; a burst twice turns nothing.
func TestBurst(t *testing.T) {
	r := rand.New(rand.NewSource(3))
	for size := range 12 {
		for bit := -40; bit < 8*size+40; bit++ {
			for _, mask := range []uint32{0, 1, 1 << 31, math.MaxUint32, r.Uint32(), r.Uint32()} {
				b := someBytes(r, size)
				got := Burst(b, bit, mask)
				if want := plainBurst(b, bit, mask); !bytes.Equal(got, want) {
					t.Fatalf("Burst(%v, %d, %#x) = %v, not %v", b, bit, mask, got, want)
				}
				if !bytes.Equal(Burst(got, bit, mask), b) {
					t.Fatalf("Burst(%v, %d, %#x), twice, turns something", b, bit, mask)
				}
			}
		}
	}
}

// P3.4: a file with a burst that turns something is none.
func TestBurstsAreSeen(t *testing.T) {
	r := rand.New(rand.NewSource(4))
	for _, parts := range [][]api.Part{
		nil,
		{{Tag: 0}},
		{{Tag: 1, Bytes: []byte("ab")}, {Tag: 200}},
		{{Tag: 9, Bytes: someBytes(r, 200)}, {Tag: 9, Bytes: make([]byte, 130)}},
	} {
		file, _ := Put(parts...)
		for bit := range 8 * len(file) {
			for _, mask := range []uint32{1, 3, 0x80000001, math.MaxUint32, 0xEDB88320, 0xDB710641, 1 + 2*r.Uint32(), r.Uint32()} {
				bent := Burst(file, bit, mask)
				if bytes.Equal(bent, file) {
					continue
				}
				if got, e := Get(bent); e != api.ErrCorrupt || got != nil {
					t.Fatalf("%d bytes, burst at %d by %#x: %d", len(file), bit, mask, e)
				}
			}
		}
	}
}

// P3.4: a file that is cut, or has more bytes, is none; not even one with another file behind it.
func TestCutsAreSeen(t *testing.T) {
	r := rand.New(rand.NewSource(5))
	for range 40 {
		file, _ := Put(someParts(r)...)
		for _, at := range []int{0, 1, 4, 7, 8, len(file) / 2, len(file) - 5, len(file) - 4, len(file) - 1} {
			if at >= len(file) {
				continue
			}
			if got, e := Get(file[:at]); e != api.ErrCorrupt || got != nil {
				t.Fatalf("%d of %d bytes: %d", at, len(file), e)
			}
			if got, e := Get(file[len(file)-at:]); e != api.ErrCorrupt || got != nil {
				t.Fatalf("the last %d of %d bytes: %d", at, len(file), e)
			}
		}
		for _, more := range [][]byte{{0}, {255}, make([]byte, 4), file[len(file)-4:], file} {
			if got, e := Get(slices.Concat(file, more)); e != api.ErrCorrupt || got != nil {
				t.Fatalf("%d bytes behind %d: %d", len(more), len(file), e)
			}
		}
	}
}

// R3: what is handed in stays as it is, and what is handed out is new memory, each part's too.
func TestMemory(t *testing.T) {
	parts := []api.Part{{Tag: 1, Bytes: []byte("abc")}, {Tag: 2, Bytes: []byte("de")}, {Tag: 3}}
	kept := cloned(parts)
	file, _ := Put(parts...)
	want := bytes.Clone(file)
	got, _ := Get(file)
	bent := Burst(file, 3, 7)
	none := Burst(file, -1, 7)
	if !sameParts(parts, kept) || !bytes.Equal(file, want) {
		t.Fatal("an argument was changed")
	}
	parts[0].Bytes[0], bent[6], none[6] = 'x', 0, 0
	if !bytes.Equal(file, want) {
		t.Error("what was handed out shares memory with an argument")
	}
	clear(file)
	if !sameParts(got, kept) {
		t.Error("parts that were got share memory with the file")
	}
	got[0].Bytes = append(got[0].Bytes, "yyyyyyyy"...)
	if !sameParts(got[1:], kept[1:]) {
		t.Error("parts that were got share memory with each other")
	}
}

// R4: one thing is answered alike each time.
func TestAlike(t *testing.T) {
	r := rand.New(rand.NewSource(6))
	parts := someParts(r)
	want, _ := Put(parts...)
	for range 5 {
		file, e := Put(parts...)
		if got, f := Get(file); e != api.OK || f != api.OK || !bytes.Equal(file, want) || !sameParts(got, parts) {
			t.Fatal("another answer")
		}
	}
}

// Ways: parts are gone through as far as one likes, and left where there is none.
func TestPartsAreLeft(t *testing.T) {
	body := plainBody([]api.Part{{Tag: 1, Bytes: []byte("a")}, {Tag: 2, Bytes: []byte("b")}})
	r := read(body)
	for part := range r.parts() {
		if part.Tag != 1 {
			t.Errorf("the first part's tag is %d", part.Tag)
		}
		break
	}
	var tags []byte
	for part := range r.parts() {
		tags = append(tags, part.Tag)
	}
	if !r.OK() || !bytes.Equal(tags, []byte{2}) {
		t.Errorf("behind the first part: %v", tags)
	}
	r = read(append(body, 3, 9))
	tags = nil
	for part := range r.parts() {
		tags = append(tags, part.Tag)
	}
	if r.OK() || !bytes.Equal(tags, []byte{1, 2}) {
		t.Errorf("ahead of what is no part: %v", tags)
	}
	for range laid(make([]api.Part, 2)) {
		break
	}
}
