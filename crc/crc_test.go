package crc

import (
	"bytes"
	"hash/crc32"
	"math/bits"
	"math/rand"
	"slices"
	"testing"
)

// plainBit is the document's words of a bit that is taken, in a number of 64 bits.
func plainBit(s uint64, bit bool) uint64 {
	looked := s % 2
	if bit {
		looked = 1 - looked
	}
	s /= 2
	if looked == 1 {
		s ^= 0xEDB88320
	}
	return s
}

// plainUpdate is the document's words of a row of bytes, one bit behind the other.
func plainUpdate(sum uint32, b []byte) uint32 {
	s := uint64(sum) ^ 0xFFFFFFFF
	for i := range 8 * len(b) {
		s = plainBit(s, b[i/8]>>(i%8)%2 == 1)
	}
	return uint32(s ^ 0xFFFFFFFF)
}

// someBytes are n bytes, the same ones each time for one seed.
func someBytes(seed int64, n int) []byte {
	b := make([]byte, n)
	rand.New(rand.NewSource(seed)).Read(b)
	return b
}

// lengths are those of rows without a table, with one, and around where one is first made.
func lengths() []int {
	return []int{0, 1, 2, 3, 4, 7, 8, 9, 31, 64, slow - 1, slow, slow + 1, slow + 2, 2*slow - 1, 2 * slow, 2*slow + 1, 1000, 5000}
}

// P1.1: Bit.
func TestBit(t *testing.T) {
	for _, c := range []struct {
		sum  uint32
		bit  bool
		want uint32
	}{
		{0, false, 0},
		{0, true, 0xEDB88320},
		{1, false, 0xEDB88320},
		{1, true, 0},
		{2, false, 1},
		{2, true, 0xEDB88321},
		{3, true, 1},
		{3, false, 0xEDB88321},
		{0x80000000, false, 0x40000000},
		{0xFFFFFFFF, true, 0x7FFFFFFF},
		{0xFFFFFFFF, false, 0x92477CDF},
	} {
		if got := Bit(c.sum, c.bit); got != c.want {
			t.Errorf("Bit(%#x, %v) = %#x, not %#x", c.sum, c.bit, got, c.want)
		}
	}
	r := rand.New(rand.NewSource(1))
	for range 2000 {
		sum, bit := r.Uint32(), r.Intn(2) == 1
		if got, want := Bit(sum, bit), uint32(plainBit(uint64(sum), bit)); got != want {
			t.Fatalf("Bit(%#x, %v) = %#x, not %#x", sum, bit, got, want)
		}
	}
}

// P1.1, and the chapter's example: sums that are known.
func TestSumKnown(t *testing.T) {
	for _, c := range []struct {
		text string
		want uint32
	}{
		{"", 0},
		{"\x00", 0xD202EF8D},
		{"\x00\x00\x00\x00", 0x2144DF1C},
		{"\xff\xff\xff\xff", 0xFFFFFFFF},
		{"a", 0xE8B7BE43},
		{"123456789", 0xCBF43926},
		{"The quick brown fox jumps over the lazy dog", 0x414FA339},
	} {
		if got := Sum([]byte(c.text)); got != c.want {
			t.Errorf("Sum(%q) = %#x, not %#x", c.text, got, c.want)
		}
		if got := Update(0, []byte(c.text)); got != c.want {
			t.Errorf("Update(0, %q) = %#x, not %#x", c.text, got, c.want)
		}
	}
}

// P1.1: rows of all kinds of lengths, from whatever sum.
func TestUpdate(t *testing.T) {
	sums := []uint32{0, 1, 0x80000000, 0xFFFFFFFF, 0xEDB88320, 0x12345678}
	for _, n := range lengths() {
		b := someBytes(int64(n), n)
		if got, want := Sum(b), crc32.ChecksumIEEE(b); got != want {
			t.Errorf("Sum of %d bytes = %#x, not %#x", n, got, want)
		}
		for _, sum := range sums {
			if got, want := Update(sum, b), plainUpdate(sum, b); got != want {
				t.Errorf("Update(%#x, %d bytes) = %#x, not %#x", sum, n, got, want)
			}
		}
	}
}

// R6: nothing, in all its forms, changes no sum.
func TestNothing(t *testing.T) {
	if Sum() != 0 || Sum(nil) != 0 || Sum([]byte{}, nil) != 0 {
		t.Error("a sum of nothing")
	}
	for _, sum := range []uint32{0, 1, 0xCBF43926, 0xFFFFFFFF} {
		if Update(sum, nil) != sum || Update(sum, []byte{}) != sum {
			t.Errorf("%#x with nothing behind", sum)
		}
	}
}

// P1.2: of each byte what 0 is with the byte taken into it.
func TestTable(t *testing.T) {
	table := Table()
	for b := range 256 {
		s := uint32(0)
		for i := range 8 {
			s = Bit(s, b>>i%2 == 1)
		}
		if table[b] != s || s != crc32.IEEETable[b] {
			t.Errorf("Table()[%d] = %#x, by bits %#x, not %#x", b, table[b], s, crc32.IEEETable[b])
		}
	}
	table[1] = 0
	if Table()[1] != 0x77073096 {
		t.Error("a table that was handed out is the same memory as the next one")
	}
}

// P1.3: a sum does not hang on how its bytes are parted.
func TestParted(t *testing.T) {
	for _, n := range lengths() {
		b := someBytes(int64(n)+100, n)
		want := Sum(b)
		for at := 0; at <= n; at += 1 + n/40 {
			if got := Sum(b[:at], nil, b[at:]); got != want {
				t.Errorf("%d bytes parted at %d: %#x, not %#x", n, at, got, want)
			}
			if got := Update(Sum(b[:at]), b[at:]); got != want {
				t.Errorf("%d bytes gone on at %d: %#x, not %#x", n, at, got, want)
			}
		}
		for _, piece := range []int{1, 3, 100, slow - 1, slow, slow + 1} {
			if got := Sum(slices.Collect(slices.Chunk(b, piece))...); got != want {
				t.Errorf("%d bytes by pieces of %d: %#x, not %#x", n, piece, got, want)
			}
		}
	}
}

// P1.3: the order of the parts counts.
func TestOrder(t *testing.T) {
	if Sum([]byte("ab"), []byte("cd")) == Sum([]byte("cd"), []byte("ab")) {
		t.Error("parts changed about have one sum")
	}
}

// turned is b, the bits from there on turned that are set in the mask.
func turned(b []byte, bit int, mask uint32) []byte {
	out := bytes.Clone(b)
	for ; mask != 0; mask &= mask - 1 {
		i := bit + bits.TrailingZeros32(mask)
		out[i/8] ^= 1 << (i % 8)
	}
	return out
}

// P1.3: of two rows that differ in a run of at most 32 bits the sums differ.
func TestRuns(t *testing.T) {
	r := rand.New(rand.NewSource(2))
	masks := []uint32{1, 1 << 31, 3, 0x80000001, 0xFFFFFFFF, 0xEDB88320, 0x04C11DB7}
	for range 30 {
		masks = append(masks, r.Uint32())
	}
	for _, n := range []int{4, 5, 8, 40, slow, slow + 4, slow + 40} {
		b := someBytes(int64(n)+200, n)
		want := Sum(b)
		for bit := 0; bit <= 8*n-32; bit += 1 + n/20 {
			for _, mask := range masks {
				if mask != 0 && Sum(turned(b, bit, mask)) == want {
					t.Fatalf("%d bytes, turned at bit %d by %#x: the sum is the same", n, bit, mask)
				}
			}
		}
	}
}

// P1.3: each single byte, in each place, counts.
func TestBytesCount(t *testing.T) {
	for _, n := range []int{1, 3, slow + 1} {
		for at := range n {
			seen := map[uint32]bool{}
			b := someBytes(int64(n), n)
			for v := range 256 {
				b[at] = byte(v)
				seen[Sum(b)] = true
			}
			if len(seen) != 256 {
				t.Fatalf("%d bytes: the byte at %d has %d sums, not 256", n, at, len(seen))
			}
		}
	}
}

// R3: what is handed in stays as it is, the list of parts too.
func TestArgumentsStay(t *testing.T) {
	parts := [][]byte{someBytes(1, 10), nil, someBytes(2, slow), someBytes(3, 300), someBytes(4, 1)}
	kept := make([][]byte, len(parts))
	for i, part := range parts {
		kept[i] = bytes.Clone(part)
	}
	Sum(parts...)
	for _, part := range parts {
		Update(7, part)
	}
	if !slices.EqualFunc(parts, kept, bytes.Equal) {
		t.Error("an argument was changed")
	}
}

// R4: one thing is answered alike each time.
func TestAlike(t *testing.T) {
	b := someBytes(5, 700)
	want, table := Sum(b), Table()
	for range 5 {
		if Sum(b) != want || Table() != table {
			t.Fatal("another answer")
		}
	}
}

// Ways: bits are gone through lowest first, and may be left.
func TestBitsOfAByte(t *testing.T) {
	got := []bool{}
	for bit := range bitsOf(0b10010110) {
		got = append(got, bit)
	}
	if !slices.Equal(got, []bool{false, true, true, false, true, false, false, true}) {
		t.Errorf("bits %v", got)
	}
	for range bitsOf(1) {
		break
	}
}
