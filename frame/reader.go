package frame

import (
	"iter"

	"mudlark/api"
	"mudlark/wire"
)

// longest is how many bytes a number has at most: MaxNum has 41 bits, and a byte takes seven.
const longest = 6

// reader gets parts from bytes. The wire's reader that it embeds copies what it is told of: it looks at what the next thing needs, not at all that is left, or many small parts would take the square of their bytes.
type reader struct {
	*wire.Reader
	left []byte // what no part has come from yet
	seen int    // how many of these the wire's reader was told of
}

// read is a reader of bytes.
func read(b []byte) *reader {
	r := &reader{left: b}
	r.look(0)
	return r
}

// parts goes through the parts, to the end or to where there is none: it has failed then.
func (r *reader) parts() iter.Seq[api.Part] {
	return func(yield func(api.Part) bool) {
	parts:
		for len(r.left) > 0 {
			part := r.part()
			switch {
			case !r.OK(), !yield(part):
				break parts
			}
		}
	}
}

// part gets a part. Where no number is got, there is none or too great a one, so that no text of 0 bytes is got there either: it fails at the text, if not ahead of it.
func (r *reader) part() api.Part {
	tag := r.left[0]
	r.left = r.left[1:]
	r.look(longest)
	size := r.Number(api.MaxDisk)
	r.look(r.got() + size)
	text := r.Text(size)
	r.left = r.left[r.got():]
	return api.Part{Tag: tag, Bytes: text}
}

// look tells the wire's reader of what is left, as many bytes as that, or all.
func (r *reader) look(many int) {
	r.seen = min(many, len(r.left))
	r.Reader = wire.Read(r.left[:r.seen])
}

// got is how many of the bytes looked at were got.
func (r *reader) got() int {
	return r.seen - r.Left()
}
