package post

import (
	"iter"
	"slices"

	"mudlark/api"
	"mudlark/wire"
)

// most is how many places a block has at most.
const most = 64

// bytesOf is the bytes of a right posting.
func bytesOf(p api.Posting) []byte {
	var heads wire.Writer
	var bodies []byte
	heads.Number(len(p.Places))
	doc := 0
	for places := range slices.Chunk(p.Places, most) {
		var body wire.Writer
		for number := range numbers(places) {
			body.Number(number)
		}
		b := body.Bytes()
		heads.Number(places[0].Doc-doc, len(b))
		doc, bodies = places[0].Doc, append(bodies, b...)
	}
	return slices.Concat([]byte(p.Gram), heads.Bytes(), bodies)
}

// numbers goes through the numbers of a block's places.
func numbers(places []api.Place) iter.Seq[int] {
	return func(yield func(int) bool) {
		ahead := api.Place{Doc: places[0].Doc, At: -1}
		for _, p := range places {
			apart := p.Doc - ahead.Doc
			if apart > 0 {
				ahead.At = -1
			}
			if !yield(apart) || !yield(p.At-ahead.At-1) {
				return
			}
			ahead = p
		}
	}
}

// head is what is told of a block ahead of its bytes: how many places it has, the first one's document, how many bytes there are.
type head struct{ many, doc, size int }

// block is a block at work.
type block struct {
	*wire.Reader
	head
}

// places goes through the block's places, up to where there is none.
func (b block) places() iter.Seq[api.Place] {
	return func(yield func(api.Place) bool) {
		p, most := api.Place{Doc: b.doc, At: -1}, 0 // the first one's document is known
		for range b.many {
			apart := b.Number(most)
			if apart > 0 {
				p = api.Place{Doc: p.Doc + apart, At: -1}
			}
			p.At += b.Number(api.MaxFile) + 1
			if !b.OK() || !yield(p) {
				return
			}
			most = api.MaxDocs
		}
	}
}

// posting is the posting of some bytes, if they are heads and just their blocks; whether it is right is another thing.
func posting(b []byte) (p api.Posting, ok bool) {
	if len(b) < size {
		return p, false
	}
	p.Gram = string(b[:size])
	l, rest, ok := heads(b[size:])
	for _, h := range l {
		if !ok || h.size > len(rest) {
			return p, false
		}
		work := block{wire.Read(rest[:h.size]), h}
		p.Places = slices.AppendSeq(p.Places, work.places())
		rest, ok = rest[h.size:], work.OK() && work.Left() == 0
	}
	return p, ok && len(rest) == 0
}

// heads are the heads with which some bytes begin, and what stands behind them.
func heads(b []byte) (l []head, rest []byte, ok bool) {
	r := wire.Read(b)
	doc := 0
	for left := r.Number(api.MaxNum); left > 0 && r.OK(); left -= most {
		doc += r.Number(api.MaxDocs)
		l = append(l, head{min(left, most), doc, r.Number(api.MaxNum)})
	}
	return l, b[len(b)-r.Left():], r.OK()
}
