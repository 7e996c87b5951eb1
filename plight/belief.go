package plight

import (
	"bytes"
	"iter"
	"slices"

	"mudlark/api"
	"mudlark/batch"
)

// manyBytes is how many bytes the corpus and what waits may have without being too long for a shard.
const manyBytes = 1 << 20

// belief is what is believed of a store.
type belief struct {
	corpus  []api.File
	perhaps bool // there may be the other corpus instead
	other   []api.File
	waits   []api.Change
	hurt    bool
}

// corpora goes through the corpora that are believed, the sure one first.
func (b *belief) corpora() iter.Seq[[]api.File] {
	return func(yield func([]api.File) bool) {
		if yield(b.corpus) && b.perhaps && !same(b.other, b.corpus) {
			yield(b.other)
		}
	}
}

// oneOf says whether one of the corpora is such.
func (b *belief) oneOf(such func(files []api.File) bool) bool {
	found := false
corpora:
	for files := range b.corpora() {
		if found = such(files); found {
			break corpora
		}
	}
	return found
}

// same says whether files are the same.
func same(a, b []api.File) bool {
	return slices.EqualFunc(a, b, func(f, g api.File) bool { return f.Path == g.Path && bytes.Equal(f.Bytes, g.Bytes) })
}

// behind are the files behind what waits.
func (b *belief) behind() ([]api.File, api.Errno) {
	return batch.Apply(b.corpus, b.waits)
}

// long says whether a shard of what there is may be too long.
func (b *belief) long() bool {
	many := 0
	for _, f := range b.corpus {
		many += len(f.Bytes)
	}
	for _, c := range b.waits {
		many += len(c.Bytes)
	}
	_, e := b.behind()
	return e == api.ErrLong || many > manyBytes
}

// wait lets a change wait, too, if that may be.
func (b *belief) wait(c api.Change) api.Errno {
	waits, e := batch.With(b.waits, c)
	if e == api.OK {
		b.waits = waits
	}
	return e
}

// settle lets a corpus be the only one, with nothing that waits.
func (b *belief) settle(files []api.File) {
	*b = belief{corpus: files, hurt: b.hurt}
}
