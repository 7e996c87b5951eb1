package mani

import (
	"bytes"
	"encoding/binary"
	"hash/crc32"
	"math/rand"
	"slices"
	"strconv"
	"strings"
	"testing"

	"mudlark/api"
	"mudlark/frame"
	"mudlark/wire"
)

// plainNumber is a number's bytes (chapter 2).
func plainNumber(n int) []byte { return binary.AppendUvarint(nil, uint64(n)) }

// fixed is a fixed number's bytes.
func fixed(n uint32) []byte { return binary.LittleEndian.AppendUint32(nil, n) }

// plainBody is the bytes of the part of a manifest.
func plainBody(m api.Manifest) []byte {
	out := append(plainNumber(m.Gen), plainNumber(len(m.Shards))...)
	for _, s := range m.Shards {
		out = slices.Concat(out, plainNumber(s.Num), plainNumber(s.Size), fixed(s.Sum), plainNumber(len(s.Dead)))
		for i, dead := range s.Dead {
			if i > 0 {
				dead -= s.Dead[i-1] + 1
			}
			out = append(out, plainNumber(dead)...)
		}
	}
	return out
}

// plainFile is the file of a part (chapter 3).
func plainFile(tag byte, body []byte) []byte {
	out := slices.Concat([]byte{tag}, plainNumber(len(body)), body)
	out = append(fixed(uint32(len(out)+8)), out...)
	return append(out, fixed(crc32.ChecksumIEEE(out))...)
}

// plainPut is the document's words of a manifest's bytes.
func plainPut(m api.Manifest) []byte {
	return plainFile(1, plainBody(m))
}

// plainRight is the document's words of a right manifest.
func plainRight(m api.Manifest) bool {
	in := func(n, least, most int) bool { return least <= n && n <= most }
	if !in(m.Gen, 0, 1<<40) || len(m.Shards) > 40 {
		return false
	}
	for i, s := range m.Shards {
		if !in(s.Num, 1, m.Gen) || !in(s.Size, 0, 1<<26) || i > 0 && m.Shards[i-1].Num >= s.Num {
			return false
		}
		for j, dead := range s.Dead {
			if !in(dead, 0, 3999) || j > 0 && s.Dead[j-1] >= dead {
				return false
			}
		}
	}
	return true
}

// same says whether two manifests are the same.
func same(a, b api.Manifest) bool {
	return a.Gen == b.Gen && slices.EqualFunc(a.Shards, b.Shards, func(x, y api.ShardRef) bool {
		return x.Num == y.Num && x.Size == y.Size && x.Sum == y.Sum && slices.Equal(x.Dead, y.Dead)
	})
}

// check holds what is told of a manifest against the plain words.
func check(t *testing.T, m api.Manifest) {
	t.Helper()
	right := plainRight(m)
	if Right(m) != right {
		t.Fatalf("%v: right %v", m, Right(m))
	}
	b, e := Put(m)
	if !right {
		if b != nil || e != api.ErrArg {
			t.Fatalf("%v: %v, %d", m, b, e)
		}
		return
	}
	if !bytes.Equal(b, plainPut(m)) || e != api.OK {
		t.Fatalf("%v: %v, %d, not %v", m, b, e, plainPut(m))
	}
	if got, e := Get(b); !same(got, m) || e != api.OK {
		t.Fatalf("%v: %v, %d", m, got, e)
	}
}

// checkBytes holds Get of bytes: what is got is right, and put by just these bytes.
func checkBytes(t *testing.T, b []byte) (got bool) {
	t.Helper()
	m, e := Get(b)
	if e == api.OK {
		if !plainRight(m) || !bytes.Equal(plainPut(m), b) {
			t.Fatalf("%v: %v", b, m)
		}
	} else if !same(m, api.Manifest{}) || e != api.ErrCorrupt {
		t.Fatalf("%v: %v, %d", b, m, e)
	}
	return e == api.OK
}

// some is a right manifest of chance.
func some(r *rand.Rand) api.Manifest {
	m := api.Manifest{Gen: r.Intn(1 << r.Intn(40))}
	num := 0
	for range r.Intn(6) {
		num += 1 + r.Intn(1+m.Gen/4)
		s := api.ShardRef{Num: num, Size: r.Intn(2 << r.Intn(26)), Sum: r.Uint32()}
		dead := -1
		for range r.Intn(2) * r.Intn(9) {
			if dead += 1 + r.Intn(1<<r.Intn(11)); dead < 4000 {
				s.Dead = append(s.Dead, dead)
			}
		}
		if num <= m.Gen {
			m.Shards = append(m.Shards, s)
		}
	}
	return m
}

// copied is a manifest in memory of its own.
func copied(m api.Manifest) api.Manifest {
	m.Shards = slices.Clone(m.Shards)
	for i := range m.Shards {
		m.Shards[i].Dead = slices.Clone(m.Shards[i].Dead)
	}
	return m
}

// spoilt is a manifest in which something is another thing.
func spoilt(r *rand.Rand, m api.Manifest) api.Manifest {
	m = copied(m)
	odd := []int{-1 << 63, -1, 0, 1, 2, 3999, 4000, 1 << 26, 1<<26 + 1, 1 << 40, 1<<40 + 1, 1<<63 - 1}
	number := odd[r.Intn(len(odd))]
	if len(m.Shards) == 0 || r.Intn(5) == 0 {
		m.Gen = number
		return m
	}
	s := &m.Shards[r.Intn(len(m.Shards))]
	switch r.Intn(4) {
	case 0:
		s.Num = number
	case 1:
		s.Size = number
	case 2:
		s.Dead = append(s.Dead, number)
	case 3:
		m.Shards = append(m.Shards, *s)
	}
	return m
}

// P25.1: manifests that are right, and such as are not.
func TestRight(t *testing.T) {
	one := func(s ...api.ShardRef) api.Manifest { return api.Manifest{Gen: 9, Shards: s} }
	var many []api.ShardRef
	for i := range 41 {
		many = append(many, api.ShardRef{Num: i + 1})
	}
	var all []int
	for i := range 4000 {
		all = append(all, i)
	}
	for i, l := range []struct {
		m  api.Manifest
		ok bool
	}{
		{api.Manifest{}, true}, {api.Manifest{Gen: 1 << 40}, true}, {api.Manifest{Gen: 1<<40 + 1}, false}, {api.Manifest{Gen: -1}, false},
		{one(api.ShardRef{Num: 1}), true}, {one(api.ShardRef{Num: 9}), true}, {one(api.ShardRef{Num: 10}), false}, {one(api.ShardRef{}), false}, {one(api.ShardRef{Num: -1}), false}, {api.Manifest{Shards: []api.ShardRef{{Num: 1}}}, false},
		{one(api.ShardRef{Num: 1}, api.ShardRef{Num: 2}), true}, {one(api.ShardRef{Num: 2}, api.ShardRef{Num: 2}), false}, {one(api.ShardRef{Num: 2}, api.ShardRef{Num: 1}), false},
		{one(api.ShardRef{Num: 1, Size: 1 << 26}), true}, {one(api.ShardRef{Num: 1, Size: 1<<26 + 1}), false}, {one(api.ShardRef{Num: 1, Size: -1}), false}, {one(api.ShardRef{Num: 1, Sum: 1<<32 - 1}), true},
		{one(api.ShardRef{Num: 1, Dead: []int{0, 3999}}), true}, {one(api.ShardRef{Num: 1, Dead: []int{4000}}), false}, {one(api.ShardRef{Num: 1, Dead: []int{-1}}), false}, {one(api.ShardRef{Num: 1, Dead: []int{3, 3}}), false}, {one(api.ShardRef{Num: 1, Dead: []int{4, 3}}), false}, {one(api.ShardRef{Num: 1, Dead: all}), true}, {one(api.ShardRef{Num: 1}, api.ShardRef{Num: 2, Dead: []int{1, 0}}), false},
		{api.Manifest{Gen: 40, Shards: many[:40]}, true}, {api.Manifest{Gen: 41, Shards: many}, false},
	} {
		if Right(l.m) != l.ok {
			t.Errorf("%d: %v", i, Right(l.m))
		}
		check(t, l.m)
	}
	greatest := api.Manifest{Gen: 1 << 40, Shards: many[:40]}
	for i := range greatest.Shards {
		greatest.Shards[i] = api.ShardRef{Num: 1<<40 - 39 + i, Size: 1 << 26, Sum: 1, Dead: all}
	}
	check(t, greatest)
}

// P25.1, P25.2, P25.4, R4: manifests of chance, right ones and others.
func TestChanceAgainstPlain(t *testing.T) {
	r := rand.New(rand.NewSource(251))
	wrong := 0
	for range 15000 {
		m := some(r)
		check(t, m)
		check(t, m)
		m = spoilt(r, m)
		check(t, m)
		if !Right(m) {
			wrong++
		}
	}
	if wrong < 4000 {
		t.Errorf("%d", wrong)
	}
}

// P25.2: files of other parts, and parts that are no manifest.
func TestCorrupt(t *testing.T) {
	body := plainBody(api.Manifest{Gen: 3, Shards: []api.ShardRef{{Num: 2, Size: 300, Dead: []int{1}}}})
	if !checkBytes(t, plainFile(1, body)) {
		t.Fatal("right")
	}
	for _, tag := range []byte{0, 2, 255} {
		if checkBytes(t, plainFile(tag, body)) {
			t.Errorf("tag %d", tag)
		}
	}
	one := api.Part{Tag: 1, Bytes: body}
	for i, parts := range [][]api.Part{nil, {one, one}, {one, {}}, {{}, one}, {one, {Tag: 1}}} {
		b, _ := frame.Put(parts...)
		if checkBytes(t, b) {
			t.Errorf("parts %d", i)
		}
	}
	const rest = "\x00\x00\x00\x00\x00" // the sum, and none that are dead
	for name, body := range map[string]string{
		"nothing": "", "no count": "\x03", "more behind": "\x03\x00\x00", "fewer shards": "\x03\x02\x01\x00" + rest, "more shards": "\x03\x01\x01\x00" + rest + "\x02\x00" + rest, "a longer number": "\x83\x00\x00", "a longer count": "\x03\x80\x00",
		"no size": "\x03\x01\x01", "no sum": "\x03\x01\x01\x00", "a sum cut": "\x03\x01\x01\x00\x00\x00", "no dead": "\x03\x01\x01\x00\x00\x00\x00\x00", "dead cut": "\x03\x01\x01\x00\x00\x00\x00\x00\x01",
		"number 0": "\x03\x01\x00\x00" + rest, "above gen": "\x03\x01\x04\x00" + rest, "alike": "\x03\x02\x01\x00" + rest + "\x01\x00" + rest, "falling": "\x03\x02\x02\x00" + rest + "\x01\x00" + rest,
		"a great size": "\x03\x01\x01\x81\x80\x80\x20" + rest, "a great gen": "\x81\x80\x80\x80\x80\x20\x00", "a great dead one": "\x03\x01\x01\x00\x00\x00\x00\x00\x01\xa0\x1f", "41 shards": "\x7f\x29" + strings.Repeat("\x01\x00"+rest, 41), "very many": "\x03\x80\x80\x80\x80\x80\x20",
	} {
		if checkBytes(t, plainFile(1, []byte(body))) {
			t.Errorf("%s: got", name)
		}
	}
	for _, body := range []string{"\x00\x00", "\x80\x80\x80\x80\x80\x20\x00", "\x03\x01\x03\x80\x80\x80\x20" + rest, "\x03\x01\x01\x00\x00\x00\x00\x00\x01\x9f\x1f"} {
		if !checkBytes(t, plainFile(1, []byte(body))) {
			t.Errorf("%q", body)
		}
	}
}

// P25.2, P25.4: parts that are changed are got as what is put by just them, or not at all.
func TestOneWay(t *testing.T) {
	r := rand.New(rand.NewSource(252))
	right := 0
	for range 20000 {
		body := plainBody(some(r))
		switch r.Intn(4) {
		case 0:
			body = body[:r.Intn(len(body)+1)]
		case 1:
			body = append(body, byte(r.Intn(3)))
		default:
			body[r.Intn(len(body))] = []byte{0, 1, 2, 64, 127, 128, byte(r.Intn(256))}[r.Intn(7)]
		}
		if checkBytes(t, plainFile(1, body)) {
			right++
		}
	}
	if right < 500 || right > 19000 {
		t.Errorf("%d", right)
	}
}

// P25.4: bursts, cuts, more behind.
func TestDamage(t *testing.T) {
	if checkBytes(t, nil) {
		t.Error("no bytes")
	}
	b, _ := Put(api.Manifest{Gen: 300, Shards: []api.ShardRef{{Num: 7, Size: 70, Sum: 77, Dead: []int{0, 4}}, {Num: 8}}})
	for bit := range 8 * len(b) {
		for _, mask := range []uint32{1, 3, 5, 0x80000001, 0xFFFFFFFF} {
			if checkBytes(t, frame.Burst(b, bit, mask)) {
				t.Errorf("%d, %x", bit, mask)
			}
		}
	}
	for i := range b {
		if checkBytes(t, b[:i]) {
			t.Errorf("cut to %d", i)
		}
	}
	for _, behind := range []string{"\x00", "\xff", string(b)} {
		if checkBytes(t, append(slices.Clone(b), behind...)) {
			t.Errorf("%q behind", behind)
		}
	}
}

// P25.3, P25.4: names of shards, and of manifests.
func TestNames(t *testing.T) {
	for num, want := range map[int]string{1: "s.1", 12: "s.12", 1 << 40: "s.1099511627776", 0: "", -1: "", 1<<40 + 1: "", -1 << 63: "", 1<<63 - 1: ""} {
		if got := Name(num); got != want {
			t.Errorf("%d: %s", num, got)
		}
	}
	if Now() != "m" || Next() != "m.new" {
		t.Error("manifests")
	}
	for _, name := range []string{"", "s", "s.", "s.0", "s.012", "s.00", "s.+1", "s.-1", "s. 1", "s.1 ", "s.1a", "s.0x1", "s.1_0", "s.1.0", "S.1", "t.1", "1", "12", ".1", "m", "m.new", "m.1", "ss.1", "s.1099511627777", "s.9999999999999999999", "s.18446744073709551617", "s.\xff1", "s..1", "xs.1", "s.\x001"} {
		if num, ok := Num(name); num != 0 || ok {
			t.Errorf("%q: %d", name, num)
		}
	}
	r := rand.New(rand.NewSource(253))
	for i := range 20000 {
		num := 1 + i
		if i > 2000 {
			num = 1 + r.Intn(1<<40)
		}
		name := Name(num)
		if name != "s."+strconv.Itoa(num) || len(name) > api.MaxName || name == Now() || name == Next() {
			t.Fatalf("%d: %s", num, name)
		}
		if got, ok := Num(name); got != num || !ok {
			t.Fatalf("%s: %d", name, got)
		}
	}
}

// R3: arguments are as they were and not kept, what is handed out is new memory, each list its own.
func TestMemory(t *testing.T) {
	m := api.Manifest{Gen: 5, Shards: []api.ShardRef{{Num: 1, Dead: []int{1, 2}}, {Num: 2, Dead: []int{3}}}}
	before := copied(m)
	b, _ := Put(m)
	whole := slices.Clone(b)
	got, _ := Get(b)
	clear(b)
	if !same(got, before) {
		t.Errorf("%v", got)
	}
	_ = append(got.Shards[0].Dead, 9)
	got.Shards[0].Dead[0] = 9
	if got.Shards[1].Dead[0] != 3 || !same(m, before) {
		t.Error("shared")
	}
	m.Shards[0].Dead[1] = 7
	again, _ := Put(before)
	if !bytes.Equal(again, whole) {
		t.Errorf("%v", again)
	}
}

// P25.2: shards that are gone through are left where a loop ends.
func TestShardsAreLeft(t *testing.T) {
	body := plainBody(api.Manifest{Shards: []api.ShardRef{{Num: 1}, {Num: 2}}})
	r := reader{wire.Read(body[1:])}
	for s := range r.shards() {
		if s.Num != 1 {
			t.Errorf("%v", s)
		}
		break
	}
	if r.Left() != len(plainBody(api.Manifest{Shards: []api.ShardRef{{Num: 2}}}))-2 {
		t.Errorf("%d", r.Left())
	}
}
