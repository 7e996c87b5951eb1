package store

import (
	"iter"

	"mudlark/api"
	"mudlark/mani"
	"mudlark/vfs"
)

// failure is thrown where something can't be done.
type failure struct{ e api.Errno }

// must throws an error, if it is one.
func must(e api.Errno) {
	if e != api.OK {
		panic(failure{e})
	}
}

// told does something, and tells the error that it throws.
func told(do func()) (e api.Errno) {
	defer func() {
		if thrown := recover(); thrown != nil {
			// Nothing but failures is thrown: a fault of the program would go on as a panic.
			e = thrown.(failure).e
		}
	}()
	do()
	return api.OK
}

// files are those of a disk that had crashed so often.
type files struct {
	disk    *vfs.Disk
	crashes int
}

// check throws, if the disk is down, or has crashed since.
func (f files) check() {
	if now := f.disk.Stat(); now.Down || now.Crashes != f.crashes {
		must(api.ErrDown)
	}
}

// whole is all bytes of a file.
func (f files) whole(name string) ([]byte, api.Errno) {
	size, e := f.disk.Size(name)
	if e != api.OK {
		return nil, e
	}
	return f.disk.Read(name, 0, size)
}

// current is the manifest that is there; of no file it is the first one of all.
func (f files) current() api.Manifest {
	b, e := f.whole(mani.Now())
	if e == api.ErrNone {
		return api.Manifest{}
	}
	must(e)
	m, e := mani.Get(b)
	must(e)
	return m
}

// has says whether there is a file.
func (f files) has(name string) bool {
	_, e := f.disk.Size(name)
	return e == api.OK
}

// lay lays a file, in the place of what has its name.
func (f files) lay(name string, b []byte) {
	if f.has(name) {
		must(f.disk.Remove(name))
	}
	must(f.disk.Create(name))
	must(f.disk.Append(name, b))
	must(f.disk.Sync(name))
}

// clear removes files that are there; what comes of that is not minded.
func (f files) clear(names ...string) {
	for _, name := range names {
		if f.has(name) {
			f.disk.Remove(name)
		}
	}
}

// strays goes through the names of files that a manifest does not need.
func (f files) strays(m api.Manifest) iter.Seq[string] {
	needed := map[string]struct{}{mani.Now(): {}}
	for _, s := range m.Shards {
		needed[mani.Name(s.Num)] = struct{}{}
	}
	return func(yield func(string) bool) {
	names:
		for _, name := range f.disk.List() {
			if _, stays := needed[name]; stays {
				continue names
			}
			if !yield(name) {
				return
			}
		}
	}
}
