package span

import (
	"iter"
	"math/bits"
	"slices"
)

// word is how many places a row's number tells of.
const word = 64

// row is some places of at most 200 bytes.
type row [most/word + 1]uint64

// add puts a place into the row.
func (r *row) add(i int) {
	r[i/word] |= 1 << (i % word)
}

// addAll puts another row's places into the row.
func (r *row) addAll(other row) {
	for i := range r {
		r[i] |= other[i]
	}
}

// places goes through the row's places, rising.
func (r row) places() iter.Seq[int] {
	return func(yield func(int) bool) {
		for i, left := range r {
			for ; left != 0; left &= left - 1 {
				if !yield(word*i + bits.TrailingZeros64(left)) {
					return
				}
			}
		}
	}
}

// spans is of each place from which spans go the row of those at which they end.
type spans []row

// or is the spans, and others too.
func (s spans) or(others ...spans) spans {
	out := slices.Clone(s)
	for _, other := range others {
		for i := range out {
			out[i].addAll(other[i])
		}
	}
	return out
}

// then is the spans with others behind them, one behind the other.
func (s spans) then(others ...spans) spans {
	for _, other := range others {
		next := make(spans, len(s))
		for i, ends := range s {
			for j := range ends.places() {
				next[i].addAll(other[j])
			}
		}
		s = next
	}
	return s
}

// times is stay, and the spans so many times behind it: by twice, four times .. as many of them, till twice as many are the same.
func (s spans) times(many int, stay spans) spans {
	out := stay
	for many > 0 {
		if many%2 == 1 {
			out = out.then(s)
		}
		twice := s.then(s)
		if slices.Equal(twice, s) {
			many = min(many, 2)
		}
		s, many = twice, many/2
	}
	return out
}
