package plight

import (
	"slices"

	"mudlark/api"
	"mudlark/seek"
	"mudlark/store"
)

// deeds is how many there are.
const deeds = 12

// The deeds from the one that arms to the one that opens need no store.
const (
	firstWithout = 5
	lastWithout  = 10
)

// asksStore says whether a deed needs a store.
func asksStore(what int) bool {
	return what < firstWithout || what > lastWithout
}

// table is what deeds do: each tells a report.
func table() map[int]func(w *world, d Deed) Report {
	return map[int]func(*world, Deed) Report{
		0:  (*world).put,
		1:  (*world).take,
		2:  (*world).commit,
		3:  (*world).compact,
		4:  (*world).search,
		5:  (*world).arm,
		6:  (*world).full,
		7:  (*world).crash,
		8:  (*world).flip,
		9:  (*world).cut,
		10: (*world).open,
		11: (*world).drop,
	}
}

func (w *world) put(d Deed) Report {
	return w.change(w.store.Put(d.File), api.Change{Path: d.File.Path, Bytes: d.File.Bytes})
}

func (w *world) take(d Deed) Report {
	return w.change(w.store.Take(d.File.Path), api.Change{Path: d.File.Path, Take: true})
}

// change is the report of a change of which the store tells an error.
func (w *world) change(told api.Errno, c api.Change) Report {
	want := api.ErrDown
	if !w.failed() {
		want = w.wait(c)
	}
	return Report{Err: told, Fits: told == want}
}

func (w *world) commit(Deed) Report {
	failed := w.failed()
	behind, e := w.behind()
	told := w.store.Commit()
	fits := w.excused(told)
	switch {
	case told == api.OK && e == api.OK:
		fits = true
		w.settle(behind)
	case told == api.ErrDown && e == api.OK && !failed:
		w.perhaps, w.other = true, behind
	}
	return Report{Err: told, Fits: fits}
}

func (w *world) compact(Deed) Report {
	told := w.store.Compact()
	return Report{Err: told, Fits: told == api.OK || w.excused(told)}
}

// excused says whether an error of writing fits.
func (w *world) excused(e api.Errno) bool {
	switch e {
	case api.ErrDown:
		return w.failed()
	case api.ErrCorrupt:
		return w.hurt
	case api.ErrNoSpace:
		return true
	case api.ErrLong:
		return w.long()
	}
	return false
}

func (w *world) search(d Deed) Report {
	answer, told := seek.Search(w.store, d.Ask)
	fits := false
	switch told {
	case api.OK:
		fits = w.oneOf(func(files []api.File) bool {
			want, e := seek.Model(files, d.Ask)
			return e == api.OK && want.Cut == answer.Cut && slices.Equal(want.Hits, answer.Hits)
		})
	case api.ErrDown:
		fits = w.failed()
	case api.ErrCorrupt:
		fits = w.hurt
	default:
		_, _, e := seek.Check(d.Ask)
		fits = told == e
	}
	return Report{Err: told, Answer: answer, Fits: fits}
}

func (w *world) arm(d Deed) Report {
	w.disk.Arm(d.N)
	return Report{Fits: true}
}

func (w *world) full(d Deed) Report {
	w.disk.Full(d.N)
	return Report{Fits: true}
}

func (w *world) crash(d Deed) Report {
	w.disk.Crash()
	w.wake(d.N, d.Tears...)
	return w.open(d)
}

// wake wakes the disk, which is down.
func (w *world) wake(dirs int, tears ...int) {
	w.disk.Wake(dirs, tears...)
}

func (w *world) flip(d Deed) Report {
	return w.damage(w.disk.Flip(w.file(d.N), d.M, d.Mask))
}

func (w *world) cut(d Deed) Report {
	return w.damage(w.disk.Cut(w.file(d.N), d.M))
}

// damage is the report of damage of which the disk tells an error.
func (w *world) damage(told api.Errno) Report {
	w.hurt = w.hurt || told == api.OK
	return Report{Err: told, Fits: true}
}

func (w *world) open(Deed) Report {
	var files []api.File
	told := api.OK
	w.waits = nil
	w.crashes = w.disk.Stat().Crashes
	if w.store, told = store.Open(w.disk); told == api.OK {
		files, told = w.store.Corpus()
	}
	fits := false
	switch told {
	case api.OK:
		if fits = w.oneOf(func(l []api.File) bool { return same(l, files) }); fits {
			w.settle(files)
		}
	case api.ErrCorrupt:
		fits = w.hurt
	case api.ErrDown:
		fits = w.disk.Stat().Down
	}
	return Report{Err: told, Fits: fits}
}

func (w *world) drop(Deed) Report {
	told, want := w.store.Drop(), api.OK
	if w.failed() {
		want = api.ErrDown
	}
	if told == api.OK {
		w.waits = nil
	}
	return Report{Err: told, Fits: told == want}
}
