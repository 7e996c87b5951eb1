package set

import (
	"math/rand"
	"slices"
	"testing"

	"mudlark/api"
)

// plain is a set as the document's words say it: of each byte whether it has it.
type plain [256]bool

// plainOf is which bytes a set has.
func plainOf(s api.Set) plain {
	var p plain
	for b := range p {
		p[b] = s[b/64]/(1<<(b%64))%2 == 1
	}
	return p
}

// set is the set of just these bytes.
func (p plain) set() api.Set {
	var s api.Set
	for b, has := range p {
		if has {
			s[b/64] += 1 << (b % 64)
		}
	}
	return s
}

// which is the bytes of which something is so.
func which(is func(b int) bool) api.Set {
	var p plain
	for b := range p {
		p[b] = is(b)
	}
	return p.set()
}

// some is a set of few bytes, of many, or of rows of bytes.
func some(r *rand.Rand) api.Set {
	var s api.Set
	for i := range s {
		s[i] = r.Uint64()
		for range r.Intn(8) {
			s[i] &= r.Uint64()
		}
	}
	switch r.Intn(4) {
	case 0:
		for i := range s {
			s[i] = ^s[i]
		}
	case 1:
		lo, hi := r.Intn(256), r.Intn(256)
		s = which(func(b int) bool { return b >= lo && b <= hi })
	}
	return s
}

// full is the set of all bytes.
func full() api.Set { return which(func(int) bool { return true }) }

// sets is sets at the edges, and some others.
func sets() []api.Set {
	r := rand.New(rand.NewSource(1))
	out := []api.Set{{}, full(), {1}, {0, 0, 0, 1 << 63}, {1 << 63, 1}, {0, 1<<63 | 1}, {^uint64(0)}, {0, 0, ^uint64(0), 0}, {0xAAAAAAAAAAAAAAAA, 0x5555555555555555, 1, 3}}
	for range 300 {
		out = append(out, some(r))
	}
	return out
}

// holds holds a set against the one that is to be told.
func holds(t *testing.T, what string, got, want api.Set) {
	t.Helper()
	if got != want {
		t.Errorf("%s: %x, not %x", what, got, want)
	}
}

// P8.1: Of, each byte, and several.
func TestOf(t *testing.T) {
	holds(t, "of nothing", Of(), api.Set{})
	for c := range 256 {
		holds(t, "of one", Of(byte(c)), which(func(b int) bool { return b == c }))
	}
	holds(t, "of one twice", Of('a', 'a'), Of('a'))
	holds(t, "of some", Of(255, 0, 64, 63, 65, 128, 255), api.Set{1<<63 | 1, 3, 1, 1 << 63})
}

// P8.1: Range, from each byte to each.
func TestRange(t *testing.T) {
	for lo := range 256 {
		for hi := range 256 {
			if got, want := Range(byte(lo), byte(hi)), which(func(b int) bool { return b >= lo && b <= hi }); got != want {
				t.Fatalf("Range(%d, %d) = %x", lo, hi, got)
			}
		}
	}
}

// P8.1: Union and Meet, of none, one, and some.
func TestUnionAndMeet(t *testing.T) {
	holds(t, "the union of none", Union(), api.Set{})
	holds(t, "the meet of none", Meet(), full())
	r := rand.New(rand.NewSource(2))
	for _, s := range sets() {
		holds(t, "the union of one", Union(s), s)
		holds(t, "the meet of one", Meet(s), s)
		holds(t, "with nothing", Union(s, api.Set{}), s)
		holds(t, "what nothing has", Meet(s, api.Set{}), api.Set{})
		holds(t, "with all", Union(s, full()), full())
		holds(t, "what all have", Meet(s, full()), s)
		l := []api.Set{s}
		for range r.Intn(5) {
			l = append(l, some(r))
		}
		has := func(b int) func(api.Set) bool {
			return func(one api.Set) bool { return plainOf(one)[b] }
		}
		holds(t, "a union", Union(l...), which(func(b int) bool { return slices.ContainsFunc(l, has(b)) }))
		holds(t, "a meet", Meet(l...), which(func(b int) bool {
			return !slices.ContainsFunc(l, func(one api.Set) bool { return !has(b)(one) })
		}))
	}
}

// P8.1: Not.
func TestNot(t *testing.T) {
	holds(t, "not nothing", Not(api.Set{}), full())
	for _, s := range sets() {
		holds(t, "not", Not(s), which(func(b int) bool { return !plainOf(s)[b] }))
		holds(t, "not not", Not(Not(s)), s)
	}
}

// P8.1: Fold, of each byte and of sets.
func TestFold(t *testing.T) {
	const big, small = "ABCDEFGHIJKLMNOPQRSTUVWXYZ", "abcdefghijklmnopqrstuvwxyz"
	var other [256]int
	for b := range other {
		other[b] = b
	}
	for i := range big {
		other[big[i]], other[small[i]] = int(small[i]), int(big[i])
	}
	for b := range 256 {
		holds(t, "one byte", Fold(Of(byte(b))), Of(byte(b), byte(other[b])))
	}
	for _, s := range sets() {
		has := plainOf(s)
		holds(t, "a set", Fold(s), which(func(b int) bool { return has[b] || has[other[b]] }))
	}
}

// P8.2, and the chapter's example: Has, Count, Bytes.
func TestHas(t *testing.T) {
	for _, s := range sets() {
		var bytes []byte
		for b, has := range plainOf(s) {
			if Has(s, byte(b)) != has {
				t.Fatalf("Has(%x, %d) is not %v", s, b, has)
			}
			if has {
				bytes = append(bytes, byte(b))
			}
		}
		if got := Count(s); got != len(bytes) {
			t.Errorf("Count(%x) = %d", s, got)
		}
		if got := Bytes(s); !slices.Equal(got, bytes) {
			t.Errorf("Bytes(%x) = %v", s, got)
		}
	}
	if Count(api.Set{}) != 0 || len(Bytes(api.Set{})) != 0 || Count(full()) != 256 || Count(Not(Of())) != 256 {
		t.Error("nothing, or all")
	}
}

// P8.2, and the chapter's example: Ranges, byte by byte.
func TestRangesKnown(t *testing.T) {
	for _, c := range []struct {
		s    api.Set
		want [][2]byte
	}{
		{api.Set{}, nil},
		{full(), [][2]byte{{0, 255}}},
		{Of(0), [][2]byte{{0, 0}}},
		{Of(255), [][2]byte{{255, 255}}},
		{Of(0, 255), [][2]byte{{0, 0}, {255, 255}}},
		{Of(63, 64), [][2]byte{{63, 64}}},
		{Of(5, 3, 1), [][2]byte{{1, 1}, {3, 3}, {5, 5}}},
		{Fold(Range('a', 'c')), [][2]byte{{'A', 'C'}, {'a', 'c'}}},
		{Range(100, 200), [][2]byte{{100, 200}}},
		{Not(Range(100, 200)), [][2]byte{{0, 99}, {201, 255}}},
		{Not(Of(0, 255)), [][2]byte{{1, 254}}},
		{Union(Range(250, 255), Range(0, 2)), [][2]byte{{0, 2}, {250, 255}}},
	} {
		if got := Ranges(c.s); !slices.Equal(got, c.want) {
			t.Errorf("Ranges(%x) = %v, not %v", c.s, got, c.want)
		}
	}
}

// P8.2, P8.3: ranges are as long as may be, rising; a set is the union of its ranges, and Of its Bytes.
func TestRanges(t *testing.T) {
	for _, s := range sets() {
		has := plainOf(s)
		var union api.Set
		ahead := -1
		for _, r := range Ranges(s) {
			lo, hi := int(r[0]), int(r[1])
			if lo > hi || lo <= ahead || lo > 0 && has[lo-1] || hi < 255 && has[hi+1] {
				t.Fatalf("Ranges(%x) = %v", s, Ranges(s))
			}
			ahead = hi
			union = Union(union, Range(r[0], r[1]))
		}
		holds(t, "the union of its ranges", union, s)
		holds(t, "of its bytes", Of(Bytes(s)...), s)
	}
}

// P8.3: Not of a union is the meet of the Nots, and the other way; Fold of Fold is Fold.
func TestWhatFollows(t *testing.T) {
	all := sets()
	for i, s := range all {
		other, third := all[(i+1)%len(all)], all[(i*7+3)%len(all)]
		holds(t, "not a union", Not(Union(s, other, third)), Meet(Not(s), Not(other), Not(third)))
		holds(t, "not a meet", Not(Meet(s, other, third)), Union(Not(s), Not(other), Not(third)))
		holds(t, "fold of fold", Fold(Fold(s)), Fold(s))
	}
	holds(t, "not the union of none", Not(Union()), Meet())
	holds(t, "not the meet of none", Not(Meet()), Union())
}

// R3: what is handed in stays as it is; what is handed out is new memory.
func TestMemory(t *testing.T) {
	l := []byte{3, 1, 2}
	Of(l...)
	all := []api.Set{{1, 2, 3, 4}, {5, 6, 7, 8}}
	Union(all...)
	Meet(all...)
	Not(all[0])
	Fold(all[1])
	if !slices.Equal(l, []byte{3, 1, 2}) || !slices.Equal(all, []api.Set{{1, 2, 3, 4}, {5, 6, 7, 8}}) {
		t.Error("an argument was changed")
	}
	s := Of(1, 2, 3)
	Bytes(s)[0] = 9
	Ranges(s)[0][0] = 9
	if !slices.Equal(Bytes(s), []byte{1, 2, 3}) || !slices.Equal(Ranges(s), [][2]byte{{1, 3}}) {
		t.Error("what was handed out is kept")
	}
}

// R4, R7: of many sets, and of many bytes.
func TestMany(t *testing.T) {
	l := slices.Repeat([]api.Set{full()}, 20000)
	holds(t, "the meet of many", Meet(l...), full())
	holds(t, "the union of many", Union(l...), full())
	holds(t, "of many bytes", Of(slices.Repeat([]byte{7, 9}, 100000)...), Of(7, 9))
	l[19999] = Of('z')
	holds(t, "the last one", Meet(l...), Of('z'))
}

// Ways: bytes are gone through as far as one likes, and again.
func TestBytesAreLeft(t *testing.T) {
	bytes := bytesOf(Of(255, 63, 64, 0))
	for many := range 6 {
		var got []byte
		for b := range bytes {
			if len(got) == many {
				break
			}
			got = append(got, b)
		}
		if want := []byte{0, 63, 64, 255}; !slices.Equal(got, want[:min(many, len(want))]) {
			t.Errorf("the first %d: %v", many, got)
		}
	}
}
