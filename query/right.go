package query

import "mudlark/api"

// Right says whether a query is.
func Right(q api.Query) bool {
	a := &along{text: Text(q)}
	return a.right(&q)
}

// along goes along a query's text as the query is gone through, so that each Sub's text is made once.
type along struct {
	text string
	at   int
}

// right says whether a query is, whose text begins at the place; if so, the place is behind it then.
func (a *along) right(q *api.Query) bool {
	grams, subs := len(q.Grams), len(q.Subs)
	switch q.Kind {
	case api.QueryAll, api.QueryNone: // no Sub is one, so nobody asks where it ends
		return grams == 0 && subs == 0
	case api.QueryAnd:
		return (grams >= 1 || subs >= 2) && a.rightThings(q)
	case api.QueryOr:
		return grams+subs >= 2 && a.rightThings(q)
	}
	return false
}

// rightThings says whether the things of a QueryAnd, a QueryOr, are right, and rise.
func (a *along) rightThings(q *api.Query) bool {
	a.at++
	ahead, aheadText := "", ""
	for t := range things(q) {
		from := a.at
		if t.sub == nil {
			if len(t.gram) != size || t.gram <= ahead {
				return false
			}
			ahead = t.gram
			a.at += 2 * size
		} else {
			if !mayStandIn(q.Kind, t.sub) || !a.right(t.sub) || a.text[from:a.at] <= aheadText {
				return false
			}
			aheadText = a.text[from:a.at]
		}
		a.at++ // behind each thing stands a sign, or the end
	}
	return true
}

// mayStandIn says whether a Sub may stand in a query of a kind.
func mayStandIn(kind api.QueryKind, sub *api.Query) bool {
	if kind == api.QueryAnd {
		return sub.Kind == api.QueryOr
	}
	return sub.Kind == api.QueryAnd && !isGram(*sub)
}
