package cursor

import (
	"math"
	"math/rand"
	"slices"
	"testing"

	"mudlark/api"
)

// rising is those numbers that are above all ahead.
func rising(row []int) []int {
	var out []int
	for i, n := range row {
		if !slices.ContainsFunc(row[:i], func(ahead int) bool { return ahead >= n }) {
			out = append(out, n)
		}
	}
	return out
}

// those is the numbers from -50 to 50, and the far ones, of which something is so.
func those(is func(n int) bool) []int {
	all := []int{math.MinInt, math.MinInt + 1}
	for n := -50; n <= 50; n++ {
		all = append(all, n)
	}
	all = append(all, math.MaxInt-1, math.MaxInt)
	return slices.DeleteFunc(all, func(n int) bool { return !is(n) })
}

// someRow is numbers in any order, mostly rising, some of them far away.
func someRow(r *rand.Rand) []int {
	row := make([]int, r.Intn(12))
	for i := range row {
		row[i] = r.Intn(30) - 8
		if r.Intn(25) == 0 {
			row[i] = []int{math.MinInt, math.MinInt + 1, math.MaxInt - 1, math.MaxInt}[r.Intn(4)]
		}
	}
	if r.Intn(3) > 0 {
		slices.Sort(row)
	}
	return row
}

// some is a cursor of chance, perhaps over others, and its rest as the document's words say it.
func some(r *rand.Rand, deep int) (*Cursor, []int) {
	if deep == 0 || r.Intn(4) == 0 {
		return someSingle(r)
	}
	var cursors []*Cursor
	var rests [][]int
	for range r.Intn(4) {
		c, rest := some(r, deep-1)
		for range r.Intn(3) * r.Intn(2) {
			c.Next()
			rest = rest[min(1, len(rest)):]
		}
		cursors, rests = append(cursors, c), append(rests, rest)
	}
	in := func(n int) func(rest []int) bool {
		return func(rest []int) bool { return slices.Contains(rest, n) }
	}
	switch r.Intn(3) {
	case 0:
		return Meet(cursors...), those(func(n int) bool {
			return len(rests) > 0 && !slices.ContainsFunc(rests, func(rest []int) bool { return !in(n)(rest) })
		})
	case 1:
		return Join(cursors...), those(func(n int) bool { return slices.ContainsFunc(rests, in(n)) })
	}
	a, rest := some(r, deep-1)
	b, other := some(r, deep-1)
	return Less(a, b), those(func(n int) bool { return in(n)(rest) && !in(n)(other) })
}

// someSingle is a cursor over no others, and its rest.
func someSingle(r *rand.Rand) (*Cursor, []int) {
	row := someRow(r)
	switch r.Intn(8) {
	case 0:
		from := r.Intn(20) - 5
		to := from + r.Intn(20) - 4
		return Span(from, to), those(func(n int) bool { return n >= from && n < to })
	case 1:
		var places []api.Place
		for _, n := range row {
			places = append(places, api.Place{Doc: n, At: r.Intn(3)})
		}
		return Places(places), rising(row)
	case 2:
		return []*Cursor{nil, {}}[r.Intn(2)], nil
	}
	return Of(row...), rising(row)
}

// step does something with a cursor, and tells the rest behind it.
func step(t *testing.T, r *rand.Rand, c *Cursor, rest []int) []int {
	t.Helper()
	switch r.Intn(5) {
	case 0:
		c.Next()
		return rest[min(1, len(rest)):]
	case 1:
		to := r.Intn(34) - 10
		if r.Intn(20) == 0 {
			to = []int{math.MinInt, math.MaxInt}[r.Intn(2)]
		}
		c.Seek(to)
		return slices.DeleteFunc(slices.Clone(rest), func(n int) bool { return n < to })
	case 2:
		most := r.Intn(6) - 2
		many := min(max(most, 0), len(rest))
		if got := c.Take(most); !slices.Equal(got, rest[:many]) {
			t.Fatalf("take %d of %v: %v", most, rest, got)
		}
		return rest[many:]
	case 3:
		many, most := 0, 1+r.Intn(4)
		for n := range c.All() {
			if n != rest[many] {
				t.Fatalf("all of %v: %d", rest, n)
			}
			if many++; many == most {
				return rest[many-1:] // it stands at what was told last
			}
		}
		if many != len(rest) {
			t.Fatalf("all of %v: %d", rest, many)
		}
		return nil
	}
	return rest
}

// stands holds where a cursor stands.
func stands(t *testing.T, c *Cursor, rest []int) {
	t.Helper()
	n, ok := c.Now()
	if ok != (len(rest) > 0) || ok && n != rest[0] || !ok && n != 0 {
		t.Fatalf("at %d, %v of %v", n, ok, rest)
	}
}

// P20.1 to P20.3, R4: cursors of chance, over others of chance, moved by chance.
func TestChanceAgainstPlain(t *testing.T) {
	for seed := range int64(12000) {
		r := rand.New(rand.NewSource(seed))
		c, rest := some(r, 3)
		if r.Intn(2) == 0 {
			stands(t, c, rest)
		}
		for range r.Intn(12) {
			rest = step(t, r, c, rest)
			if r.Intn(3) > 0 {
				stands(t, c, rest)
			}
		}
		if got := slices.Collect(c.All()); !slices.Equal(got, rest) {
			t.Fatalf("%d: %v, not %v", seed, got, rest)
		}
		stands(t, c, nil)
	}
}

// P20.1: rows, spans, places.
func TestRows(t *testing.T) {
	for i, l := range []struct {
		c    *Cursor
		rest []int
	}{
		{Of(), nil}, {Of(3), []int{3}}, {Of(1, 3, 3, 2, 5, 4, 6), []int{1, 3, 5, 6}}, {Of(-2, -5, 0), []int{-2, 0}}, {Of(math.MaxInt, math.MinInt), []int{math.MaxInt}}, {Of(math.MinInt, math.MaxInt), []int{math.MinInt, math.MaxInt}},
		{Span(2, 5), []int{2, 3, 4}}, {Span(2, 2), nil}, {Span(5, 2), nil}, {Span(math.MaxInt, math.MinInt), nil}, {Span(-1, 1), []int{-1, 0}}, {Span(math.MaxInt-1, math.MaxInt), []int{math.MaxInt - 1}},
		{Places(nil), nil}, {Places([]api.Place{{Doc: 1, At: 4}, {Doc: 1, At: 5}, {Doc: 3}, {Doc: 2}}), []int{1, 3}},
	} {
		stands(t, l.c, l.rest)
		if got := slices.Collect(l.c.All()); !slices.Equal(got, l.rest) {
			t.Errorf("%d: %v", i, got)
		}
		l.c.Next()
		l.c.Seek(math.MinInt)
		stands(t, l.c, nil)
	}
}

// P20.2: the chapter's example, no cursors, one cursor twice.
func TestOverOthers(t *testing.T) {
	odd, few := func() *Cursor { return Of(1, 3, 5, 7) }, func() *Cursor { return Of(3, 4, 7, 9) }
	twice := odd()
	again := odd()
	same := odd()
	for i, l := range []struct {
		c    *Cursor
		rest []int
	}{
		{Meet(odd(), few()), []int{3, 7}}, {Less(odd(), few()), []int{1, 5}}, {Join(odd(), few()), []int{1, 3, 4, 5, 7, 9}},
		{Meet(), nil}, {Join(), nil}, {Meet(odd()), []int{1, 3, 5, 7}}, {Join(odd()), []int{1, 3, 5, 7}}, {Meet(odd(), nil), nil}, {Join(nil, odd(), nil), []int{1, 3, 5, 7}}, {Less(nil, odd()), nil}, {Less(odd(), nil), []int{1, 3, 5, 7}}, {Less(nil, nil), nil}, {Meet(&Cursor{}, odd()), nil}, {Join(&Cursor{}, odd()), []int{1, 3, 5, 7}},
		{Meet(twice, twice), []int{1, 3, 5, 7}}, {Join(again, again), []int{1, 3, 5, 7}}, {Less(same, same), nil}, {Meet(Span(0, 1<<62), Of(5, 1<<61), Span(-1<<62, 1<<62)), []int{5, 1 << 61}},
	} {
		stands(t, l.c, l.rest)
		if got := slices.Collect(l.c.All()); !slices.Equal(got, l.rest) {
			t.Errorf("%d: %v", i, got)
		}
	}
}

// P20.2, R5: a cursor that is none, and one that was not told.
func TestNone(t *testing.T) {
	for _, c := range []*Cursor{nil, {}} {
		c.Next()
		c.Seek(5)
		stands(t, c, nil)
		if l := c.Take(3); l != nil {
			t.Errorf("%v", l)
		}
		for n := range c.All() {
			t.Errorf("%d", n)
		}
	}
}

// P20.3: what it stands at while it is gone through, moved meanwhile, too.
func TestAll(t *testing.T) {
	c := Of(1, 3, 5, 7, 9)
	var told []int
	for n := range c.All() {
		stands(t, c, []int{n})
		told = append(told, n)
		switch n {
		case 3:
			c.Seek(6)
		case 7:
			c.Next()
		}
	}
	if !slices.Equal(told, []int{1, 3, 7, 9}) {
		t.Errorf("%v", told)
	}
	stands(t, c, nil)
	c = Join(Of(1, 3), Of(2))
	all := c.All()
	for n := range all {
		if n == 2 {
			break
		}
	}
	stands(t, c, []int{2})
	if got := slices.Collect(all); !slices.Equal(got, []int{2, 3}) {
		t.Errorf("%v", got)
	}
}

// P20.3: how many are taken.
func TestTake(t *testing.T) {
	c := Span(0, 5)
	for _, l := range []struct {
		most int
		want []int
	}{{0, nil}, {-1, nil}, {math.MinInt, nil}, {2, []int{0, 1}}, {1, []int{2}}, {math.MaxInt, []int{3, 4}}, {3, nil}} {
		if got := c.Take(l.most); !slices.Equal(got, l.want) {
			t.Errorf("%d: %v", l.most, got)
		}
	}
	c = Of(4, 6)
	c.Take(2)
	stands(t, c, nil)
	c = Of(4, 6)
	c.Take(1)
	stands(t, c, []int{6})
}

// P20.2: a cursor over others moves them.
func TestOthersAreMoved(t *testing.T) {
	a, b := Of(1, 2, 3, 4), Of(2, 4)
	m := Meet(a, b)
	m.Next()
	stands(t, m, []int{4})
	m.Next()
	stands(t, m, nil)
	j := Join(Of(5), m)
	j.Seek(5)
	stands(t, j, []int{5})
	l := Less(Of(1, 2, 3), Of(3))
	l.Next()
	stands(t, l, []int{2})
	l.Next()
	stands(t, l, nil)
}

// P20.4: Meet and Join hang on no order; what is sought is found by Next as often as must be.
func TestWhatFollows(t *testing.T) {
	for seed := range int64(1500) {
		cursors := func(back bool) []*Cursor {
			r := rand.New(rand.NewSource(seed))
			var l []*Cursor
			for range 3 {
				c, _ := some(r, 2)
				l = append(l, c)
			}
			if back {
				slices.Reverse(l)
			}
			return l
		}
		for _, over := range []func(...*Cursor) *Cursor{Meet, Join} {
			forth, back := slices.Collect(over(cursors(false)...).All()), slices.Collect(over(cursors(true)...).All())
			if !slices.Equal(forth, back) {
				t.Fatalf("%d: %v, %v", seed, forth, back)
			}
			for to := -10; to < 25; to += 3 {
				sought, stepped := over(cursors(false)...), over(cursors(false)...)
				sought.Seek(to)
				for n, ok := stepped.Now(); ok && n < to; n, ok = stepped.Now() {
					stepped.Next()
				}
				if a, b := slices.Collect(sought.All()), slices.Collect(stepped.All()); !slices.Equal(a, b) {
					t.Fatalf("%d to %d: %v, %v", seed, to, a, b)
				}
			}
		}
	}
}

// R3: rows and lists of cursors are neither changed nor kept, what is taken is new memory; a cursor that is overwritten is another one.
func TestMemory(t *testing.T) {
	row, places := []int{1, 2, 3}, []api.Place{{Doc: 1}, {Doc: 2}, {Doc: 3}}
	of, docs := Of(row...), Places(places)
	clear(row)
	clear(places)
	l := []*Cursor{of, docs}
	m := Meet(l...)
	clear(l)
	taken := m.Take(2)
	clear(taken)
	if got := m.Take(9); !slices.Equal(got, []int{3}) {
		t.Errorf("%v", got)
	}
	c := Of(1, 2)
	*c = *Meet(c, Of(2, 3))
	if got := c.Take(9); !slices.Equal(got, []int{2}) {
		t.Errorf("%v", got)
	}
}

// R1: long rows, and deep cursors.
func TestGreatest(t *testing.T) {
	row := make([]int, 1<<20)
	for i := range row {
		row[i] = 3 * i
	}
	if got := len(slices.Collect(Meet(Of(row...), Span(0, 1<<40)).All())); got != 1<<20 {
		t.Errorf("%d", got)
	}
	if got := len(slices.Collect(Less(Span(0, 1<<20), Of(row...)).All())); got != 1<<20-(1<<20+2)/3 {
		t.Errorf("%d", got)
	}
	c := Span(0, 10)
	for range 1000 {
		c = Join(c)
	}
	if got := c.Take(2); !slices.Equal(got, []int{0, 1}) {
		t.Errorf("%v", got)
	}
}
