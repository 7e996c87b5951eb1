package merge

import (
	"iter"
	"maps"
	"slices"

	"mudlark/api"
	"mudlark/doc"
)

// work is a part at work; it has the dead ones as they are asked for.
type work struct {
	Part
	gone map[int]struct{}
}

// worked is a part at work.
func worked(p Part) work {
	w := work{p, make(map[int]struct{})}
	for _, number := range p.Dead {
		w.gone[number] = struct{}{}
	}
	return w
}

// right says whether the part is by itself.
func (w work) right() bool {
	ahead := -1
	for _, number := range w.Dead {
		if number <= ahead || number >= len(w.Files) {
			return false
		}
		ahead = number
	}
	return doc.Files(w.Files)
}

// living goes through the files that are not dead, and their numbers.
func (w work) living() iter.Seq2[int, api.File] {
	return func(yield func(int, api.File) bool) {
	files:
		for i, f := range w.Files {
			if _, dead := w.gone[i]; dead {
				continue files
			}
			if !yield(i, f) {
				return
			}
		}
	}
}

// lives says whether a file is not dead.
func (w work) lives() bool {
	for range w.living() {
		return true
	}
	return false
}

// kill lets the living files of some paths be dead.
func (w work) kill(paths map[string]struct{}) {
	for i, f := range w.living() {
		if _, ok := paths[f.Path]; ok {
			w.gone[i] = struct{}{}
		}
	}
}

// dead are the numbers of the dead files, rising.
func (w work) dead() []int {
	return slices.Sorted(maps.Keys(w.gone))
}
