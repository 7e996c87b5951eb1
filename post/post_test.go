package post

import (
	"bytes"
	"math/rand"
	"slices"
	"testing"

	"mudlark/api"
	"mudlark/wire"
)

// check holds what is told of postings against the plain words.
func check(t *testing.T, l []api.Posting) {
	t.Helper()
	right := plainRight(l)
	if Right(l) != right {
		t.Fatalf("%v: right %v", l, Right(l))
	}
	b, e := Put(l)
	if !right {
		if b != nil || e != api.ErrArg {
			t.Fatalf("%v: %v, %d", l, b, e)
		}
		return
	}
	if !bytes.Equal(b, plainPut(l)) || e != api.OK {
		t.Fatalf("%v: %v, %d, not %v", l, b, e, plainPut(l))
	}
	if got, e := Get(b); !same(got, l) || e != api.OK {
		t.Fatalf("%v: %v, %d", l, got, e)
	}
}

// checkBytes holds Get and From of bytes: what is got is right, and put by just these bytes.
func checkBytes(t *testing.T, b []byte) (got bool) {
	t.Helper()
	l, e := Get(b)
	if e == api.OK {
		if !plainRight(l) || !bytes.Equal(plainPut(l), b) {
			t.Fatalf("%v: %v", b, l)
		}
	} else if l != nil || e != api.ErrCorrupt {
		t.Fatalf("%v: %v, %d", b, l, e)
	}
	if places, e2 := From(b, "aaa", 0); e2 != e || e != api.OK && places != nil {
		t.Fatalf("%v: %v, %d", b, places, e2)
	}
	return e == api.OK
}

func corrupt(t *testing.T, name string, b []byte) {
	t.Helper()
	if checkBytes(t, b) {
		t.Errorf("%s: %v", name, b)
	}
}

// P19.1, P19.2: the chapter's example.
func TestExample(t *testing.T) {
	l := Make([]byte("abab"))
	if !same(l, []api.Posting{{Gram: "aba", Places: []api.Place{{}}}, {Gram: "bab", Places: []api.Place{{At: 1}}}}) {
		t.Errorf("%v", l)
	}
	if b, e := Put(l); string(b) != "\x02\x08aba\x01\x00\x02\x00\x00\x08bab\x01\x00\x02\x00\x01" || e != api.OK {
		t.Errorf("%q, %d", b, e)
	}
	check(t, l)
}

// P19.1: documents of chance, and such as have no gram.
func TestMake(t *testing.T) {
	r := rand.New(rand.NewSource(191))
	for range 3000 {
		var docs [][]byte
		for range r.Intn(5) {
			b := make([]byte, r.Intn(12)*r.Intn(12))
			for i := range b {
				b[i] = "aab\x00\xff"[r.Intn(5)]
			}
			docs = append(docs, b)
		}
		l := Make(docs...)
		if !same(l, plainMake(docs...)) || !Right(l) {
			t.Fatalf("%q: %v", docs, l)
		}
		check(t, l)
	}
	for _, docs := range [][][]byte{nil, {nil}, {[]byte("ab"), nil, []byte("c")}} {
		if l := Make(docs...); len(l) != 0 || !Right(l) {
			t.Errorf("%q: %v", docs, l)
		}
	}
	if b, e := Put(nil); string(b) != "\x00" || e != api.OK {
		t.Errorf("%v, %d", b, e)
	}
}

// P19.1, P19.2: postings that are right, and such as are not.
func TestRight(t *testing.T) {
	place := func(doc, at int) api.Place { return api.Place{Doc: doc, At: at} }
	one := func(places ...api.Place) []api.Posting { return []api.Posting{{Gram: "abc", Places: places}} }
	for i, l := range []struct {
		l  []api.Posting
		ok bool
	}{
		{nil, true}, {one(), false}, {one(place(0, 0)), true}, {one(place(3999, 1<<20)), true}, {one(place(4000, 0)), false}, {one(place(-1, 0)), false}, {one(place(0, -1)), false}, {one(place(0, 1<<20+1)), false},
		{one(place(1, 1), place(1, 2)), true}, {one(place(1, 1), place(1, 1)), false}, {one(place(1, 2), place(1, 1)), false}, {one(place(1, 2), place(2, 1)), true}, {one(place(2, 1), place(1, 2)), false},
		{[]api.Posting{{Gram: "ab", Places: []api.Place{{}}}}, false}, {[]api.Posting{{Gram: "abcd", Places: []api.Place{{}}}}, false}, {[]api.Posting{{}}, false},
		{append(one(place(0, 0)), one(place(0, 1))...), false}, {append(one(place(0, 0)), api.Posting{Gram: "abd", Places: []api.Place{{}}}), true}, {append(one(place(0, 0)), api.Posting{Gram: "abb", Places: []api.Place{{}}}), false},
	} {
		if Right(l.l) != l.ok {
			t.Errorf("%d: %v", i, Right(l.l))
		}
		check(t, l.l)
	}
}

// P19.2, P19.4, R4: postings of chance, right ones and others.
func TestChanceAgainstPlain(t *testing.T) {
	r := rand.New(rand.NewSource(192))
	wrong := 0
	for range 4000 {
		l := some(r)
		check(t, l)
		check(t, l)
		l = spoilt(r, l)
		check(t, l)
		if !Right(l) {
			wrong++
		}
	}
	if wrong < 1500 {
		t.Errorf("%d", wrong)
	}
}

// P19.2: postings of just one block, and of one place more, all of them in one document, or each in its own.
func TestBlocks(t *testing.T) {
	for _, many := range []int{1, 63, 64, 65, 127, 128, 129, 192, 4000} {
		for _, apart := range []int{0, 1} {
			var places []api.Place
			for i := range many {
				places = append(places, api.Place{Doc: i * apart, At: 3 * i})
			}
			check(t, []api.Posting{{Gram: "abc", Places: places}, {Gram: "abd", Places: places[many-1:]}})
		}
	}
}

// P19.2: bytes that are none such: each kind of what may be wrong.
func TestCorrupt(t *testing.T) {
	for name, b := range map[string]string{
		"nothing": "", "more behind": "\x00\x00", "too few": "\x01", "no gram": "\x01\x00", "a short gram": "\x01\x02aa", "no places": "\x01\x04aaa\x00", "no head": "\x01\x04aaa\x01",
		"a head cut": "\x01\x05aaa\x01\x00", "no block": "\x01\x06aaa\x01\x00\x02", "more in the posting": "\x01\x09aaa\x01\x00\x02\x00\x00\x00",
		"a short block": "\x01\x07aaa\x01\x00\x02\x00", "a block of fewer bytes": "\x01\x08aaa\x01\x00\x01\x00\x00", "a block of more bytes": "\x01\x08aaa\x01\x00\x03\x00\x00", "a block that is longer": "\x01\x09aaa\x01\x00\x03\x00\x00\x00",
		"the first one's document again": "\x01\x08aaa\x01\x00\x02\x01\x00", "a longer number": "\x01\x09aaa\x01\x00\x03\x00\x80\x00", "longer in the head": "\x01\x09aaa\x01\x80\x00\x02\x00\x00",
		"two grams alike": "\x02\x08aaa\x01\x00\x02\x00\x00\x08aaa\x01\x00\x02\x00\x01", "grams that fall": "\x02\x08aab\x01\x00\x02\x00\x00\x08aaa\x01\x00\x02\x00\x01",
		"document 4000": "\x01\x09aaa\x01\xa0\x1f\x02\x00\x00", "offset 2^20 + 1": "\x01\x0aaaa\x01\x00\x04\x00\x81\x80\x40", "offset beyond by two": "\x01\x0caaa\x02\x00\x06\x00\x80\x80\x40\x00\x00",
		"document beyond by two": "\x01\x0caaa\x02\x9f\x1f\x04\x00\x00\x01\x00", "very many": "\x01\x0baaa\x80\x80\x80\x80\x80\x20\x00\x02", "very many postings": "\x80\x80\x80\x80\x80\x20", "a very long block": "\x01\x0daaa\x01\x00\x80\x80\x80\x80\x80\x20\x00\x00",
	} {
		corrupt(t, name, []byte(b))
	}
	for _, b := range []string{"\x01\x09aaa\x01\x9f\x1f\x02\x00\x00", "\x01\x0aaaa\x01\x00\x04\x00\x80\x80\x40", "\x01\x0aaaa\x02\x00\x04\x00\x00\x01\x00"} {
		if !checkBytes(t, []byte(b)) {
			t.Errorf("%q", b)
		}
	}
	checkBlocksThatFall(t)
}

// checkBlocksThatFall holds postings of two blocks, of which the second one does not stand behind the first one.
func checkBlocksThatFall(t *testing.T) {
	t.Helper()
	var places []api.Place
	for i := range 65 {
		places = append(places, api.Place{At: 2 * i})
	}
	b, _ := Put([]api.Posting{{Gram: "aaa", Places: places}})
	last := bytes.LastIndex(b, []byte{0, 0x80, 1})
	for _, at := range []byte{0x80, 0x81, 0xff} {
		b[last+1] = at
		if !checkBytes(t, b) {
			t.Errorf("%d", at)
		}
	}
	places[64].At = 127
	b, _ = Put([]api.Posting{{Gram: "aaa", Places: places}})
	for at, ok := range map[byte]bool{0: false, 126: false, 127: true} {
		b[len(b)-1] = at
		if checkBytes(t, b) != ok {
			t.Errorf("%d", at)
		}
	}
}

// P19.2, P19.4: bytes of which one is another one, or that are cut, or have more behind them: each is got as what is put by just them, or not at all.
func TestOneWay(t *testing.T) {
	r := rand.New(rand.NewSource(193))
	right := 0
	for range 25000 {
		b, _ := Put(some(r))
		for range 1 + r.Intn(2) {
			switch r.Intn(4) {
			case 0:
				b = b[:r.Intn(len(b)+1)]
			case 1:
				b = append(b, byte(r.Intn(3)))
			default:
				if len(b) > 0 {
					b[r.Intn(len(b))] = []byte{0, 1, 2, 64, 127, 128, byte(r.Intn(256))}[r.Intn(7)]
				}
			}
		}
		if checkBytes(t, b) {
			right++
		}
	}
	if right < 500 || right > 20000 {
		t.Errorf("%d", right)
	}
}

// P19.3: a gram's places from a document on.
func TestFrom(t *testing.T) {
	r := rand.New(rand.NewSource(194))
	for range 1500 {
		l := some(r)
		b, _ := Put(l)
		for _, gram := range []string{"aaa", "\xff\xff\xff", "zzz", "", "aaaa"} {
			for _, doc := range []int{-1 << 63, 0, 1, r.Intn(1500), 3999, 1<<63 - 1} {
				var want []api.Place
				for _, p := range l {
					for _, place := range p.Places {
						if p.Gram == gram && place.Doc >= doc {
							want = append(want, place)
						}
					}
				}
				if got, e := From(b, gram, doc); !slices.Equal(got, want) || e != api.OK {
					t.Fatalf("%v, %s from %d: %v, %d", l, gram, doc, got, e)
				}
			}
		}
	}
	if got, e := From([]byte{1}, "aaa", 0); got != nil || e != api.ErrCorrupt {
		t.Errorf("%v, %d", got, e)
	}
}

// P19.3: places' documents, in whatever order they stand.
func TestDocs(t *testing.T) {
	for i, l := range [][]int{nil, {0}, {1, 1, 2}, {-3, -3, 7, 7, 7, -3, 0, 0}, {5, 4, 5}} {
		var places []api.Place
		for at, doc := range l {
			places = append(places, api.Place{Doc: doc, At: at % 2})
		}
		if got := Docs(places); !slices.Equal(got, slices.Compact(slices.Clone(l))) {
			t.Errorf("%d: %v", i, got)
		}
	}
}

// R1: very many places of one gram.
func TestGreatest(t *testing.T) {
	l := Make(bytes.Repeat([]byte("a"), 1<<20), []byte("aaaa"))
	b, e := Put(l)
	if e != api.OK || len(l) != 1 || len(l[0].Places) != 1<<20 {
		t.Fatalf("%d, %d", len(l), e)
	}
	if got, e := Get(b); !same(got, l) || e != api.OK {
		t.Errorf("%d", e)
	}
}

// R3: arguments are as they were, and what is handed out is new memory.
func TestMemory(t *testing.T) {
	doc := []byte("ababab")
	l := Make(doc)
	before := copied(l)
	b, _ := Put(l)
	wanted := slices.Clone(b)
	got, _ := Get(b)
	places, _ := From(b, "aba", 0)
	docs := Docs(l[0].Places)
	docs[0], places[0].At, got[0].Places[0].At, got[1].Gram = 9, 9, 9, "?"
	got[0].Places = append(got[0].Places, api.Place{})
	if !same(l, before) || !bytes.Equal(b, wanted) || string(doc) != "ababab" {
		t.Error("changed")
	}
	clear(b)
	clear(doc)
	if !same(l, before) || !same(Make([]byte("ababab")), before) {
		t.Error("kept")
	}
}

// P19.2: what is gone through is left where a loop ends.
func TestRangesAreLeft(t *testing.T) {
	for at := range 4 {
		many := 0
		for range numbers([]api.Place{{}, {Doc: 1}}) {
			if many++; many > at {
				break
			}
		}
		if many != at+1 {
			t.Errorf("%d", many)
		}
	}
	for p := range (block{wire.Read([]byte{0, 1, 0, 1}), head{many: 2}}).places() {
		if p.At != 1 {
			t.Errorf("%v", p)
		}
		break
	}
}
