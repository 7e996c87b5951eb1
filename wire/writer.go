package wire

import (
	"bytes"

	"mudlark/api"
)

// Writer is bytes that are put; one that is just there has none.
type Writer struct {
	pool   *pool
	size   int
	failed bool
}

// pool is the bytes of a writer, and of its copies: the first size ones are each one's own.
type pool struct{ bytes []byte }

// Number puts numbers.
func (w *Writer) Number(numbers ...int) {
	for _, n := range numbers {
		if n < 0 || n > api.MaxNum {
			w.fail()
			return
		}
		for b := range bytesOf(n) {
			w.put(b)
		}
	}
}

// Fixed puts a fixed number.
func (w *Writer) Fixed(n uint32) {
	w.put(byte(n), byte(n>>8), byte(n>>16), byte(n>>24))
}

// Text puts texts.
func (w *Writer) Text(texts ...[]byte) {
	for _, text := range texts {
		w.Number(len(text))
		w.put(text...)
	}
}

// Rising puts a rising row.
func (w *Writer) Rising(row ...int) {
	w.Number(len(row))
	ahead := -1 // so that the first number is as much above it, less 1, as it is itself
rising:
	for _, n := range row {
		switch {
		case n <= ahead, n > api.MaxNum:
			w.fail()
			break rising
		default:
			w.Number(n - ahead - 1)
			ahead = n
		}
	}
}

// Bytes is what was put.
func (w *Writer) Bytes() []byte {
	if w == nil || w.pool == nil {
		return nil
	}
	return bytes.Clone(w.pool.bytes[:w.size])
}

// put puts bytes as they are. It goes on in the pool only where no other copy of the writer has: what one puts must not become another one's.
func (w *Writer) put(b ...byte) {
	if w == nil || w.failed {
		return
	}
	if w.pool == nil || len(w.pool.bytes) != w.size {
		w.pool = &pool{w.Bytes()}
	}
	w.pool.bytes = append(w.pool.bytes, b...)
	w.size = len(w.pool.bytes)
}

// fail lets go of what was put, for good.
func (w *Writer) fail() {
	if w != nil {
		*w = Writer{failed: true}
	}
}
