package vfs

import (
	"iter"
	"maps"
	"slices"
	"strings"
)

// state is what a disk has.
type state struct {
	room, used     int // bytes: how many there may be, how many there are
	files          map[string]*file
	waits          []func() // each undoes a change of names that waits, if those behind it are undone
	armed, full    countdown
	turns, crashes int
	down           bool
}

// countdown is how many more calls there are up to the one that it is about; below 1 it is about none.
type countdown int

// due counts a call, and says whether it is the one.
func (c *countdown) due() bool {
	if *c < 1 {
		return false
	}
	*c--
	return *c == 0
}

// fall takes the disk down.
func (s *state) fall() {
	s.down = true
	s.crashes++
}

// names is the files' names, rising.
func (s *state) names() []string {
	return slices.Sorted(maps.Keys(s.files))
}

// loose goes through the files that have bytes that are not safe, by their names.
func (s *state) loose() iter.Seq[*file] {
	return func(yield func(*file) bool) {
		for _, name := range s.names() {
			if f := s.files[name]; f.loose() > 0 && !yield(f) {
				return
			}
		}
	}
}

// give gives a name to a file, or to none (nil), and tells how that is undone.
func (s *state) give(name string, f *file) (undo func()) {
	name = strings.Clone(name) // it may be a piece of a long text, which is not to be kept
	was := s.files[name]
	s.put(name, f)
	return func() { s.put(name, was) }
}

// put puts a file, or none, in the place of what has the name.
func (s *state) put(name string, f *file) {
	if was := s.files[name]; was != nil {
		s.used -= was.size()
		delete(s.files, name)
	}
	if f != nil {
		s.used += f.size()
		s.files[name] = f
	}
}

// wait lets a change of names wait: it is undone as a whole, its last step first.
func (s *state) wait(undos ...func()) {
	s.waits = append(s.waits, func() { backward(undos) })
}

// undo undoes the changes that wait, but for the first ones; then none waits.
func (s *state) undo(stay int) {
	backward(s.waits[stay:])
	s.waits = nil
}

// backward undoes what was done, the last thing first.
func backward(undos []func()) {
	for _, undo := range slices.Backward(undos) {
		undo()
	}
}

// tear leaves of the bytes that are not safe what the tears tell, two for each file. Where none is left, nothing stays.
func (s *state) tear(tears []int) {
torn:
	for f := range s.loose() {
		switch len(tears) {
		case 0:
			break torn
		case 1:
			s.used -= f.tear(tears[0], 0)
			tears = nil
		default:
			s.used -= f.tear(tears[0], tears[1])
			tears = tears[2:]
		}
	}
	for f := range s.loose() {
		s.used -= f.tear(0, 0)
	}
}
