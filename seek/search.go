package seek

import (
	"cmp"
	"iter"
	"slices"

	"mudlark/api"
	"mudlark/derive"
	"mudlark/hit"
	"mudlark/pick"
	"mudlark/store"
	"mudlark/vm"
)

// What may be wrong in an ask.
const (
	wrongCap = iota + 1
	wrongRegex
	wrongPath
)

// search is an ask's plan, and what it asks for beside that.
type search struct {
	derive.Plan
	ask  api.Ask
	path []api.Inst // that of the regex of paths
}

// searchOf is the search of an ask that is right.
func searchOf(a api.Ask) search {
	if a.Cap < 1 || a.Cap > api.MaxHits {
		must(wrong{wrongCap, 0, api.ErrArg})
	}
	p, at, e := derive.Regex(a.Regex, a.Flags)
	must(wrong{wrongRegex, at, e})
	path, at, e := derive.Regex(a.Path, api.Flags{}) // of "" it matches in all paths
	must(wrong{wrongPath, at, e})
	return search{p, a, path.Prog}
}

// document is a document, and how its bytes are got.
type document struct {
	api.Doc
	bytes func() []byte
}

// filed are the documents of files.
func filed(files []api.File, docs ...api.Doc) []document {
	var out []document
	for i, d := range docs {
		out = append(out, document{d, func() []byte { return files[i].Bytes }})
	}
	return out
}

// candidates are the living documents of shards whose trigrams satisfy the plan's query, by their paths.
func (s search) candidates(l ...store.Live) []document {
	var out []document
	for _, live := range l {
		docs := live.Shard.Docs()
		for _, number := range pick.Candidates(live.Shard, s.Query) {
			if !slices.Contains(live.Dead, number) {
				out = append(out, document{docs[number], func() []byte { return live.Shard.Bytes(number) }})
			}
		}
	}
	slices.SortFunc(out, func(a, b document) int { return cmp.Compare(a.Path, b.Path) })
	return out
}

// fits says whether a document is one of those that are asked for.
func (s search) fits(d document) bool {
	if len(s.ask.Langs) > 0 && !slices.Contains(s.ask.Langs, d.Lang) {
		return false
	}
	_, ok := vm.Run(s.path, []byte(d.Path), 0)
	return ok
}

// fitting goes through the documents that fit.
func (s search) fitting(docs ...document) iter.Seq[document] {
	return func(yield func(document) bool) {
		for _, d := range docs {
			if s.fits(d) && !yield(d) {
				return
			}
		}
	}
}

// hits goes through the hits of documents: of each at most one more than may be told.
func (s search) hits(docs ...document) iter.Seq[api.Hit] {
	return func(yield func(api.Hit) bool) {
	documents:
		for d := range s.fitting(docs...) {
			for _, h := range hit.Of(s.Prog, api.File{Path: d.Path, Bytes: d.bytes()}, s.ask.Cap+1) {
				if !yield(h) {
					break documents
				}
			}
		}
	}
}

// answer is the first hits of documents.
func (s search) answer(docs ...document) api.Answer {
	var out api.Answer
hits:
	for h := range s.hits(docs...) {
		if out.Cut = len(out.Hits) == s.ask.Cap; out.Cut {
			break hits
		}
		out.Hits = append(out.Hits, h)
	}
	return out
}
