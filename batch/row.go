package batch

import (
	"bytes"
	"cmp"
	"iter"
	"slices"

	"mudlark/api"
)

// row is changes by their Paths rising, each once.
type row []api.Change

// puts is the row that puts files.
func puts(files ...api.File) row {
	var out row
	for _, f := range files {
		out = append(out, api.Change{Path: f.Path, Bytes: f.Bytes})
	}
	return out
}

// lastOnes is the row of some changes, of those of one Path the last one alone.
func lastOnes(l ...api.Change) row {
	out := slices.Clone(l)
	slices.Reverse(out)
	slices.SortStableFunc(out, func(a, b api.Change) int { return cmp.Compare(a.Path, b.Path) })
	return slices.CompactFunc(out, func(a, b api.Change) bool { return a.Path == b.Path })
}

// copied are changes with Bytes of their own.
func copied(l ...api.Change) []api.Change {
	var out []api.Change
	for _, c := range l {
		c.Bytes = bytes.Clone(c.Bytes)
		out = append(out, c)
	}
	return out
}

// take takes the first change, if it is of a Path; else it is none.
func (r *row) take(path string) *api.Change {
	if len(*r) == 0 || (*r)[0].Path != path {
		return nil
	}
	c := &(*r)[0]
	*r = (*r)[1:]
	return c
}

// pair is two rows' changes of one Path: one of them may be none.
type pair struct{ earlier, later *api.Change }

// last is the later one, or, where it is none, the earlier one.
func (p pair) last() api.Change {
	return *cmp.Or(p.later, p.earlier)
}

// merger is a row, and one that is later, as far as they were not gone through.
type merger struct {
	row
	later row
}

// path is the first Path of both rows; of none it is not ok.
func (m *merger) path() (path string, ok bool) {
	for _, l := range []row{m.row, m.later} {
		if len(l) > 0 && (!ok || l[0].Path < path) {
			path, ok = l[0].Path, true
		}
	}
	return path, ok
}

// merged goes through two rows as one, by their Paths rising.
func merged(earlier, later row) iter.Seq[pair] {
	return func(yield func(pair) bool) {
		m := merger{earlier, later}
		for path, ok := m.path(); ok; path, ok = m.path() {
			if !yield(pair{m.take(path), m.later.take(path)}) {
				return
			}
		}
	}
}
