package cursor

import (
	"math"
	"slices"
)

// pass goes on behind a number, if a mover stands there. (Two of a cursor's movers may be one.)
func pass(m mover, n int) {
	if at, ok := m.now(); ok && at == n {
		m.next()
	}
}

// list is numbers that are left, rising.
type list []int

func (l *list) now() (int, bool) {
	if len(*l) == 0 {
		return 0, false
	}
	return (*l)[0], true
}

func (l *list) next() {
	if len(*l) > 0 {
		*l = (*l)[1:]
	}
}

func (l *list) seek(n int) {
	at, _ := slices.BinarySearch(*l, n)
	*l = (*l)[at:]
}

// span is all numbers from one on that are below another one.
type span struct{ from, to int }

func (s *span) now() (int, bool) {
	if s.from >= s.to {
		return 0, false
	}
	return s.from, true
}

func (s *span) next() {
	if s.from < s.to {
		s.from++
	}
}

func (s *span) seek(n int) {
	s.from = max(s.from, min(n, s.to))
}

// several are movers that a cursor is over.
type several []mover

func (s several) seek(n int) {
	for _, m := range s {
		m.seek(n)
	}
}

// pass goes on behind a number with all that stand there.
func (s several) pass(n int) {
	for _, m := range s {
		pass(m, n)
	}
}

// meet stands where all stand.
type meet struct{ several }

func (m *meet) now() (int, bool) {
	if len(m.several) == 0 {
		return 0, false
	}
	furthest := math.MinInt
lag:
	for _, one := range m.several {
		one.seek(furthest)
		n, ok := one.now()
		if !ok {
			return 0, false
		}
		if n > furthest {
			furthest = n
			goto lag
		}
	}
	return furthest, true
}

func (m *meet) next() {
	if n, ok := m.now(); ok {
		m.pass(n)
	}
}

// join stands where the first ones stand.
type join struct{ several }

func (j *join) now() (first int, some bool) {
	for _, one := range j.several {
		if n, ok := one.now(); ok && (!some || n < first) {
			first, some = n, true
		}
	}
	return first, some
}

func (j *join) next() {
	if n, ok := j.now(); ok {
		j.pass(n)
	}
}

// less stands where one stands, and not another one.
type less struct{ one, other mover }

func (l *less) now() (int, bool) {
	for {
		n, ok := l.one.now()
		if !ok {
			return 0, false
		}
		l.other.seek(n)
		if at, ok := l.other.now(); !ok || at != n {
			return n, true
		}
		l.one.next()
	}
}

func (l *less) next() {
	if n, ok := l.now(); ok {
		pass(l.one, n)
	}
}

func (l *less) seek(n int) {
	l.one.seek(n)
}
