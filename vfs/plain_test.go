package vfs

import (
	"math/rand"
	"slices"
	"strings"

	"mudlark/api"
)

// plainFile is a file of a plain disk.
type plainFile struct {
	bytes   []byte
	safe    int
	damaged bool
}

// plainDisk is the document's words of a disk. It keeps each directory since the last one that does not wait: to undo changes is to go back to an earlier one.
type plainDisk struct {
	room        int
	dirs        []map[string]*plainFile
	armed, full int
	stat        Stat
}

// newPlain is a plain disk without files.
func newPlain(room int) *plainDisk {
	return &plainDisk{room: room, dirs: []map[string]*plainFile{{}}}
}

// dir is the directory as it is.
func (p *plainDisk) dir() map[string]*plainFile { return p.dirs[len(p.dirs)-1] }

// change is a new directory, like the one that was.
func (p *plainDisk) change() map[string]*plainFile {
	next := map[string]*plainFile{}
	for name, f := range p.dir() {
		next[name] = f
	}
	p.dirs = append(p.dirs, next)
	return next
}

// names are the names, rising.
func (p *plainDisk) names() []string {
	if p.stat.Down {
		return nil
	}
	var names []string
	for name := range p.dir() {
		names = append(names, name)
	}
	slices.Sort(names)
	return names
}

// total is how many bytes all files have.
func (p *plainDisk) total() int {
	total := 0
	for _, f := range p.dir() {
		total += len(f.bytes)
	}
	return total
}

// Stat is what there is to say.
func (p *plainDisk) Stat() Stat {
	s := p.stat
	s.Files, s.Bytes, s.Waiting = len(p.dir()), p.total(), len(p.dirs)-1
	return s
}

// plainName is the document's word of a name.
func plainName(name string) bool {
	return len(name) >= 1 && len(name) <= 30 && strings.Trim(name, "abcdefghijklmnopqrstuvwxyz0123456789.") == ""
}

// turn counts a changing call.
func (p *plainDisk) turn() api.Errno {
	if p.stat.Down {
		return api.ErrDown
	}
	if p.armed == 1 {
		p.Crash()
		return api.ErrDown
	}
	p.armed--
	p.stat.Turns++
	return api.OK
}

func (p *plainDisk) Create(name string) api.Errno {
	if e := p.turn(); e != api.OK {
		return e
	}
	if !plainName(name) {
		return api.ErrArg
	}
	if p.dir()[name] != nil {
		return api.ErrKnown
	}
	p.change()[name] = &plainFile{}
	return api.OK
}

func (p *plainDisk) Append(name string, b []byte) api.Errno {
	if e := p.turn(); e != api.OK {
		return e
	}
	f := p.dir()[name]
	if f == nil {
		return api.ErrNone
	}
	if p.total()+len(b) > p.room {
		return api.ErrNoSpace
	}
	p.full--
	if p.full == 0 {
		return api.ErrNoSpace
	}
	f.bytes = append(f.bytes, b...)
	return api.OK
}

func (p *plainDisk) Sync(name string) api.Errno {
	if e := p.turn(); e != api.OK {
		return e
	}
	f := p.dir()[name]
	if f == nil {
		return api.ErrNone
	}
	f.safe = len(f.bytes)
	p.dirs = p.dirs[len(p.dirs)-1:]
	return api.OK
}

func (p *plainDisk) Rename(from, to string) api.Errno {
	if e := p.turn(); e != api.OK {
		return e
	}
	if !plainName(from) || !plainName(to) {
		return api.ErrArg
	}
	f := p.dir()[from]
	if f == nil {
		return api.ErrNone
	}
	if from != to {
		next := p.change()
		delete(next, from)
		next[to] = f
	}
	return api.OK
}

func (p *plainDisk) Remove(name string) api.Errno {
	if e := p.turn(); e != api.OK {
		return e
	}
	if p.dir()[name] == nil {
		return api.ErrNone
	}
	delete(p.change(), name)
	return api.OK
}

func (p *plainDisk) Arm(n int) {
	if !p.stat.Down {
		p.armed = n
	}
}

func (p *plainDisk) Full(n int) {
	if !p.stat.Down {
		p.full = n
	}
}

func (p *plainDisk) Crash() api.Errno {
	if p.stat.Down {
		return api.ErrDown
	}
	p.stat.Down = true
	p.stat.Crashes++
	return api.OK
}

func (p *plainDisk) Wake(dirs int, tears ...int) api.Errno {
	if !p.stat.Down {
		return api.ErrKnown
	}
	stay := plainModulo(dirs, len(p.dirs))
	p.dirs = p.dirs[stay : stay+1]
	p.stat.Down, p.armed, p.full = false, 0, 0
	next := func() int {
		if len(tears) == 0 {
			return 0
		}
		tear := tears[0]
		tears = tears[1:]
		return tear
	}
	for _, name := range p.names() {
		f := p.dir()[name]
		if len(f.bytes) == f.safe {
			continue
		}
		some := plainModulo(next(), len(f.bytes)-f.safe+1)
		zeros := next()
		f.bytes = f.bytes[:f.safe+some]
		for i := range some {
			if uint64(zeros)&(1<<(i%63)) != 0 {
				f.bytes[f.safe+i] = 0
			}
		}
		f.safe = len(f.bytes)
	}
	return api.OK
}

func (p *plainDisk) Flip(name string, bit int, mask uint32) api.Errno {
	f := p.dir()[name]
	switch {
	case p.stat.Down:
		return api.ErrDown
	case f == nil:
		return api.ErrNone
	}
	turned := slices.Clone(f.bytes)
	for i := range 32 {
		if at := bit + i; bit >= 0 && bit < 8*len(turned) && at < 8*len(turned) && mask&(1<<i) != 0 {
			turned[at/8] ^= 1 << (at % 8)
		}
	}
	switch {
	case slices.Equal(turned, f.bytes):
		return api.ErrArg
	case f.damaged:
		return api.ErrKnown
	}
	f.bytes, f.damaged = turned, true
	return api.OK
}

func (p *plainDisk) Cut(name string, n int) api.Errno {
	f := p.dir()[name]
	switch {
	case p.stat.Down:
		return api.ErrDown
	case f == nil:
		return api.ErrNone
	case n < 0 || n >= len(f.bytes):
		return api.ErrArg
	case f.damaged:
		return api.ErrKnown
	}
	f.bytes, f.damaged = f.bytes[:n:n], true
	if f.safe > n {
		f.safe = n
	}
	return api.OK
}

// plainModulo is the document's words of n modulo many: what is left, from 0 on.
func plainModulo(n, many int) int {
	if left := n % many; left < 0 {
		return left + many
	} else {
		return left
	}
}

// both are calls that a disk and a plain one have.
type both interface {
	Create(name string) api.Errno
	Append(name string, b []byte) api.Errno
	Sync(name string) api.Errno
	Rename(from, to string) api.Errno
	Remove(name string) api.Errno
	Stat() Stat
	Arm(n int)
	Full(n int)
	Crash() api.Errno
	Wake(dirs int, tears ...int) api.Errno
	Flip(name string, bit int, mask uint32) api.Errno
	Cut(name string, n int) api.Errno
}

// deed is a call, to be made of a disk and of a plain one.
type deed func(d both) api.Errno

// someDeed is any call, with numbers small, great and below 0.
func someDeed(r *rand.Rand) deed {
	names := []string{"a", "a", "b", "b", "c", "0.z", "x", "", "A", "a b", strings.Repeat("n", 30), strings.Repeat("n", 31)}
	name, other := names[r.Intn(len(names))], names[r.Intn(len(names))]
	n := r.Intn(12) - 2
	switch kind := r.Intn(40); {
	case kind < 7:
		return func(d both) api.Errno { return d.Create(name) }
	case kind < 17:
		b := make([]byte, r.Intn(1<<r.Intn(7)))
		for i := range b {
			b[i] = byte(1 + r.Intn(255))
		}
		return func(d both) api.Errno { return d.Append(name, b) }
	case kind < 21:
		return func(d both) api.Errno { return d.Sync(name) }
	case kind < 26:
		return func(d both) api.Errno { return d.Rename(name, other) }
	case kind < 29:
		return func(d both) api.Errno { return d.Remove(name) }
	case kind < 30:
		return func(d both) api.Errno { d.Arm(n); return 0 }
	case kind < 31:
		return func(d both) api.Errno { d.Full(n); return 0 }
	case kind < 33:
		return func(d both) api.Errno { return d.Crash() }
	case kind < 37:
		dirs, tears := someNumber(r), someNumbers(r)
		return func(d both) api.Errno { return d.Wake(dirs, tears...) }
	case kind < 39:
		bit, mask := r.Intn(100)-5, r.Uint32()
		return func(d both) api.Errno { return d.Flip(name, bit, mask) }
	default:
		return func(d both) api.Errno { return d.Cut(name, n) }
	}
}

// someNumber is a number of any size.
func someNumber(r *rand.Rand) int {
	n := int(r.Uint64() >> r.Intn(64))
	if r.Intn(4) == 0 {
		n = -n
	}
	return n
}

// someNumbers are a few of these.
func someNumbers(r *rand.Rand) []int {
	var l []int
	for range r.Intn(8) {
		l = append(l, someNumber(r))
	}
	return l
}
