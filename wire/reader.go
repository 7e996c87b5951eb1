package wire

import (
	"bytes"
	"iter"

	"mudlark/api"
)

// Reader goes through bytes; one that Read did not tell gets nothing, as if it had failed.
type Reader struct{ place }

// Read is a reader of bytes.
func Read(b []byte) *Reader {
	return &Reader{place{left: bytes.Clone(b), open: true}}
}

// Number gets a number.
func (r *Reader) Number(most int) int {
	if !r.OK() {
		return 0
	}
	number, size, last := 0, 0, byte(more)
	for i, b := range r.number() {
		number |= int(b%more) << (7 * i)
		size, last = i+1, b
	}
	switch {
	case last >= more, // it has no end
		last == 0 && size > 1, // it needs fewer
		number > min(most, api.MaxNum):
		r.fail()
		return 0
	}
	r.take(size)
	return number
}

// Fixed gets a fixed number.
func (r *Reader) Fixed() uint32 {
	if !r.OK() {
		return 0
	}
	n := uint32(0)
	for i, b := range r.take(4) {
		n |= uint32(b) << (8 * i)
	}
	return n
}

// Text gets a text.
func (r *Reader) Text(most int) []byte {
	size := r.Number(most)
	if !r.OK() {
		return nil
	}
	return bytes.Clone(r.take(size))
}

// Rising gets a rising row.
func (r *Reader) Rising(many, most int) []int {
	var row []int
	count, top, ahead := r.Number(many), min(most, api.MaxNum), -1
rising:
	for range count {
		gap := r.Number(top - ahead - 1)
		switch {
		case !r.OK():
			row = nil
			break rising
		default:
			ahead += gap + 1
			row = append(row, ahead)
		}
	}
	return row
}

// Left is how many bytes are left.
func (r *Reader) Left() int {
	if r == nil {
		return 0
	}
	return len(r.left)
}

// OK says whether it has not failed.
func (r *Reader) OK() bool {
	return r != nil && r.open
}

// place is the bytes behind where a reader stands: none of one that is not open.
type place struct {
	left []byte
	open bool
}

// number goes through the bytes of the number that stands there, but no more than any number has.
func (p *place) number() iter.Seq2[int, byte] {
	return func(yield func(int, byte) bool) {
		for i, b := range p.left {
			if i == longest || !yield(i, b) || b < more {
				return
			}
		}
	}
}

// take goes on behind so many bytes, and fails where there are fewer.
func (p *place) take(many int) []byte {
	if many > len(p.left) {
		p.fail()
		return nil
	}
	taken := p.left[:many]
	p.left = p.left[many:]
	return taken
}

// fail closes it for good.
func (p *place) fail() {
	*p = place{}
}
