package near

import (
	"cmp"
	"slices"

	"mudlark/api"
)

// row is places that rise.
type row []api.Place

// rising is those of some places that are behind all ahead of them.
func rising(l []api.Place) row {
	var out row
	for _, p := range l {
		if len(out) == 0 || order(p, out[len(out)-1]) > 0 {
			out = append(out, p)
		}
	}
	return out
}

// order is below 0, if a place is ahead of another one, and above 0, if it is behind it.
func order(p, other api.Place) int {
	return cmp.Or(cmp.Compare(p.Doc, other.Doc), cmp.Compare(p.At, other.At))
}

// goTo leaves what is ahead of a place, and says whether that is one of the row. As it is mostly near, it is looked for in first places, twice as many as before, till it can't be behind them.
func (r *row) goTo(p api.Place) bool {
	many := 1
	for many < len(*r) && order((*r)[many-1], p) < 0 {
		many *= 2
	}
	at, ok := slices.BinarySearchFunc((*r)[:min(many, len(*r))], p, order)
	*r = (*r)[at:]
	return ok
}

// looker looks for a gram of a run, so many bytes behind the run's begin, at places that rise.
type looker struct {
	row
	behind int
}

// sees says whether the gram stands there, if the run begins at a place.
func (l *looker) sees(p api.Place) bool {
	return l.goTo(api.Place{Doc: p.Doc, At: p.At + l.behind})
}

// lookersOf look for the grams of a run, one behind the other.
func lookersOf(l []api.Posting, run ...string) []*looker {
	rows := make(map[string]row)
	for _, g := range run {
		rows[g] = nil
	}
	for _, p := range slices.Backward(l) { // so that of one gram the first posting is what stays
		if _, sought := rows[p.Gram]; sought {
			rows[p.Gram] = rising(p.Places)
		}
	}
	var out []*looker
	for i, g := range run {
		out = append(out, &looker{rows[g], i})
	}
	return out
}
