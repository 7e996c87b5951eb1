package desk

import (
	"math"

	"mudlark/api"
	"mudlark/derive"
	"mudlark/plight"
	"mudlark/query"
)

// The deeds that lines do.
const (
	put = iota
	take
	commit
	compact
	search
	arm
	full
	crash
	flip
	cut
	open
	drop
)

// table is what lines do, by their first words.
func table() map[string]func(d *desk, w *words) {
	return map[string]func(*desk, *words){
		"room":    (*desk).room,
		"put":     (*desk).put,
		"take":    (*desk).take,
		"commit":  (*desk).commit,
		"compact": (*desk).compact,
		"drop":    (*desk).drop,
		"open":    (*desk).open,
		"arm":     (*desk).arm,
		"full":    (*desk).full,
		"crash":   (*desk).crash,
		"flip":    (*desk).flip,
		"cut":     (*desk).cut,
		"ask":     (*desk).ask,
		"files":   (*desk).files,
		"stat":    (*desk).stat,
		"plan":    (*desk).plan,
	}
}

func (d *desk) room(w *words) {
	n := w.number()
	w.end()
	world, e := plight.New(n)
	if e == api.OK {
		d.world = world
	}
	d.told(e, true)
}

func (d *desk) put(w *words) {
	f := api.File{Path: w.text(), Bytes: []byte(w.text())}
	w.end()
	d.deed(plight.Deed{What: put, File: f})
}

func (d *desk) take(w *words) {
	f := api.File{Path: w.text()}
	w.end()
	d.deed(plight.Deed{What: take, File: f})
}

func (d *desk) commit(w *words) {
	w.end()
	d.deed(plight.Deed{What: commit})
}

func (d *desk) compact(w *words) {
	w.end()
	d.deed(plight.Deed{What: compact})
}

func (d *desk) drop(w *words) {
	w.end()
	d.deed(plight.Deed{What: drop})
}

func (d *desk) open(w *words) {
	w.end()
	d.deed(plight.Deed{What: open})
}

func (d *desk) arm(w *words) {
	n := w.number()
	w.end()
	d.deed(plight.Deed{What: arm, N: n})
}

func (d *desk) full(w *words) {
	n := w.number()
	w.end()
	d.deed(plight.Deed{What: full, N: n})
}

func (d *desk) crash(w *words) {
	n := w.number()
	var tears []int
	for w.more() {
		tears = append(tears, w.number())
	}
	d.deed(plight.Deed{What: crash, N: n, Tears: tears})
}

func (d *desk) flip(w *words) {
	n, m, mask := w.number(), w.number(), w.number()
	w.end()
	must(mask >= 0 && mask <= math.MaxUint32)
	d.deed(plight.Deed{What: flip, N: n, M: m, Mask: uint32(mask)})
}

func (d *desk) cut(w *words) {
	n, m := w.number(), w.number()
	w.end()
	d.deed(plight.Deed{What: cut, N: n, M: m})
}

func (d *desk) ask(w *words) {
	a := api.Ask{Cap: w.number(), Flags: w.flags(), Regex: w.text(), Path: w.text()}
	for w.more() {
		a.Langs = append(a.Langs, w.text())
	}
	r := d.deed(plight.Deed{What: search, Ask: a})
	if r.Err != api.OK {
		return
	}
	more := ""
	if r.Answer.Cut {
		more = "cut"
	}
	d.tell("hits", more, len(r.Answer.Hits))
	for _, h := range r.Answer.Hits {
		d.tell(Word([]byte(h.Path)), Word([]byte(h.Text)), h.Line, h.Start, h.End)
	}
}

func (d *desk) files(w *words) {
	w.end()
	sure := d.world.Corpora()[0]
	d.tell("files", "", len(sure))
	for _, f := range sure {
		d.tell(Word([]byte(f.Path)), "", len(f.Bytes))
	}
}

func (d *desk) stat(w *words) {
	w.end()
	hurt := 0
	if d.world.Hurt() {
		hurt = 1
	}
	l := d.world.Corpora()
	d.tell("stat", "", len(l), len(l[0]), hurt)
}

func (d *desk) plan(w *words) {
	f, regex := w.flags(), w.text()
	w.end()
	p, at, e := derive.Regex(regex, f)
	if e != api.OK {
		d.tell("wrong", "", int(e), at)
		return
	}
	d.tell("plan", query.Text(p.Query), len(p.Prog))
}
