package shard

import (
	"bytes"
	"iter"
	"slices"

	"mudlark/api"
	"mudlark/doc"
	"mudlark/post"
)

// content is what was read of a shard's file.
type content struct {
	docs     []api.Doc
	files    []api.File
	postings []api.Posting
}

// read reads the bytes of the parts, and says whether they are those of the files that they tell.
func (c *content) read(table, all, lines, postings []byte) bool {
	docs, e := doc.Get(table)
	if e != api.OK {
		return false
	}
	c.docs = docs
	if !c.split(all) || !bytes.Equal(lines, linesOf(c.files...)) {
		return false
	}
	c.postings, e = post.Get(postings)
	return e == api.OK && c.stand()
}

// split parts the bytes of all documents, and says whether they are what the documents tell.
func (c *content) split(all []byte) bool {
	for _, d := range c.docs {
		size := min(d.Size, len(all))
		c.files = append(c.files, api.File{Path: d.Path, Bytes: all[:size]})
		all = all[size:]
	}
	docs, e := doc.Of(c.files...)
	return len(all) == 0 && e == api.OK && slices.Equal(docs, c.docs)
}

// stand says whether the postings are those of the files: each gram stands at its places, and these are as many as there are. (They are right, so that no place is told twice.)
func (c *content) stand() bool {
	left := 0
	for f := range c.each() {
		left += grams(f)
	}
	ok := true
postings:
	for _, p := range c.postings {
		for _, place := range p.Places {
			left--
			if ok = c.stands(p.Gram, place); !ok {
				break postings
			}
		}
	}
	return ok && left == 0
}

// stands says whether a gram stands at a place.
func (c *content) stands(gram string, p api.Place) bool {
	if !c.has(p.Doc) {
		return false
	}
	b := c.files[p.Doc].Bytes
	return p.At+gramSize <= len(b) && string(b[p.At:p.At+gramSize]) == gram
}

// has says whether there is a document of a number.
func (c *content) has(number int) bool {
	return number >= 0 && number < len(c.docs)
}

// each goes through the documents' files.
func (c *content) each() iter.Seq[api.File] {
	return func(yield func(api.File) bool) {
		for _, f := range c.files {
			if !yield(f) {
				return
			}
		}
	}
}
