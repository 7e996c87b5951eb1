package post

import (
	"encoding/binary"
	"math/rand"
	"slices"
	"strings"

	"mudlark/api"
)

// plainNumber is a number's bytes (chapter 2).
func plainNumber(n int) []byte { return binary.AppendUvarint(nil, uint64(n)) }

// plainBlock is the document's words of a block's bytes.
func plainBlock(places []api.Place) []byte {
	var out []byte
	for i, p := range places {
		switch {
		case i == 0:
			out = append(append(out, 0), plainNumber(p.At)...)
		case p.Doc > places[i-1].Doc:
			out = append(append(out, plainNumber(p.Doc-places[i-1].Doc)...), plainNumber(p.At)...)
		default:
			out = append(append(out, 0), plainNumber(p.At-places[i-1].At-1)...)
		}
	}
	return out
}

// plainPosting is the document's words of a posting's bytes.
func plainPosting(p api.Posting) []byte {
	out := append([]byte(p.Gram), plainNumber(len(p.Places))...)
	var blocks []byte
	for i := 0; i < len(p.Places); i += 64 {
		block := plainBlock(p.Places[i:min(i+64, len(p.Places))])
		ahead := 0
		if i > 0 {
			ahead = p.Places[i-64].Doc
		}
		out = append(append(out, plainNumber(p.Places[i].Doc-ahead)...), plainNumber(len(block))...)
		blocks = append(blocks, block...)
	}
	return append(out, blocks...)
}

// plainPut is the document's words of postings' bytes.
func plainPut(l []api.Posting) []byte {
	out := plainNumber(len(l))
	for _, p := range l {
		b := plainPosting(p)
		out = append(append(out, plainNumber(len(b))...), b...)
	}
	return out
}

// plainRight is the document's words of right postings.
func plainRight(l []api.Posting) bool {
	for i, p := range l {
		if len(p.Gram) != 3 || len(p.Places) == 0 || i > 0 && strings.Compare(l[i-1].Gram, p.Gram) >= 0 {
			return false
		}
		for j, place := range p.Places {
			if place.Doc < 0 || place.Doc > 3999 || place.At < 0 || place.At > 1<<20 {
				return false
			}
			if j > 0 {
				ahead := p.Places[j-1]
				if place.Doc < ahead.Doc || place.Doc == ahead.Doc && place.At <= ahead.At {
					return false
				}
			}
		}
	}
	return true
}

// plainMake is each gram of each document at each of its places.
func plainMake(docs ...[]byte) []api.Posting {
	byGram := map[string]*api.Posting{}
	for doc, b := range docs {
		for at := 0; at+3 <= len(b); at++ {
			g := string(b[at : at+3])
			if byGram[g] == nil {
				byGram[g] = &api.Posting{Gram: g}
			}
			byGram[g].Places = append(byGram[g].Places, api.Place{Doc: doc, At: at})
		}
	}
	var out []api.Posting
	for _, p := range byGram {
		out = append(out, *p)
	}
	slices.SortFunc(out, func(a, b api.Posting) int { return strings.Compare(a.Gram, b.Gram) })
	return out
}

// same says whether postings are the same.
func same(a, b []api.Posting) bool {
	return slices.EqualFunc(a, b, func(x, y api.Posting) bool { return x.Gram == y.Gram && slices.Equal(x.Places, y.Places) })
}

// copied is postings in memory of their own.
func copied(l []api.Posting) []api.Posting {
	var out []api.Posting
	for _, p := range l {
		out = append(out, api.Posting{Gram: p.Gram, Places: slices.Clone(p.Places)})
	}
	return out
}

// some is right postings of chance, some of them of more than a block.
func some(r *rand.Rand) []api.Posting {
	grams := []string{"\x00\x00\x00", "aaa", "aab", "aba", "\xff\xff\xff"}
	var out []api.Posting
	for _, g := range grams {
		if r.Intn(2) == 0 {
			continue
		}
		p := api.Posting{Gram: g}
		place := api.Place{Doc: r.Intn(3) * r.Intn(1500), At: -1}
		for range 1 + r.Intn(4)*r.Intn(60) {
			if r.Intn(9) == 0 {
				place = api.Place{Doc: place.Doc + 1 + r.Intn(3)*r.Intn(40), At: -1}
			}
			place.At += 1 + r.Intn(2)*r.Intn(1<<r.Intn(15))
			if place.Doc < 4000 && place.At <= 1<<20 {
				p.Places = append(p.Places, place)
			}
		}
		out = append(out, p)
	}
	return out
}

// spoilt is postings in which something is another thing.
func spoilt(r *rand.Rand, l []api.Posting) []api.Posting {
	l = copied(l)
	if len(l) == 0 {
		return []api.Posting{{}}
	}
	p := &l[r.Intn(len(l))]
	place := &p.Places[r.Intn(len(p.Places))]
	odd := []int{-1 << 63, -1, 0, 1, 2, 3999, 4000, 1 << 20, 1<<20 + 1, 1 << 40, 1<<63 - 1}
	switch r.Intn(6) {
	case 0:
		place.Doc = odd[r.Intn(len(odd))]
	case 1:
		place.At = odd[r.Intn(len(odd))]
	case 2:
		p.Gram = []string{"", "aa", "aab", "aaaa", "zzz"}[r.Intn(5)]
	case 3:
		p.Places = p.Places[:r.Intn(2)]
	case 4:
		*place = p.Places[r.Intn(len(p.Places))]
	case 5:
		l = append(l, *p)
	}
	return l
}
