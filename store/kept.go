package store

import (
	"slices"

	"mudlark/api"
	"mudlark/batch"
	"mudlark/crc"
	"mudlark/mani"
	"mudlark/merge"
	"mudlark/shard"
)

// kept is what a store keeps.
type kept struct {
	files
	manifest api.Manifest
	waits    []api.Change
}

// wait lets changes wait, too.
func (k *kept) wait(l ...api.Change) {
	waits, e := batch.With(k.waits, l...)
	must(e)
	k.waits = waits
}

// shards are the manifest's shards, as they are read.
func (k *kept) shards() []Live {
	var out []Live
	for _, ref := range k.manifest.Shards {
		out = append(out, Live{k.shard(ref), slices.Clone(ref.Dead)})
	}
	if !merge.Right(partsOf(out...)...) {
		must(api.ErrCorrupt)
	}
	return out
}

// shard is a shard of the manifest, as it is read.
func (k *kept) shard(ref api.ShardRef) *shard.Shard {
	b, e := k.whole(mani.Name(ref.Num))
	if e == api.ErrNone || e == api.OK && (len(b) != ref.Size || crc.Sum(b) != ref.Sum) {
		e = api.ErrCorrupt
	}
	must(e)
	s, e := shard.Open(b)
	must(e)
	return s
}

// partsOf are shards as parts.
func partsOf(l ...Live) []merge.Part {
	var out []merge.Part
	for _, s := range l {
		out = append(out, merge.Part{Files: s.Shard.Files(), Dead: s.Dead})
	}
	return out
}

// write writes dead ones and fresh files, so that they are the store's, or throws, and nothing changes.
func (k *kept) write(parts []merge.Part, dead [][]int, fresh []api.File) {
	next := api.Manifest{Gen: k.manifest.Gen + 1}
	e := told(func() {
		if next.Gen > api.MaxNum {
			must(api.ErrLong)
		}
		next.Shards = k.left(parts, dead)
		if len(fresh) > 0 {
			next.Shards = append(next.Shards, k.add(next.Gen, fresh...))
		}
		k.replace(next)
	})
	if e != api.OK && e != api.ErrDown {
		k.clear(mani.Next(), mani.Name(next.Gen))
	}
	must(e)
	k.manifest = next
	for name := range k.strays(next) {
		k.clear(name)
	}
}

// left are the shards that still live, with these dead ones.
func (k *kept) left(parts []merge.Part, dead [][]int) []api.ShardRef {
	var out []api.ShardRef
	for i, ref := range k.manifest.Shards {
		if merge.Lives(merge.Part{Files: parts[i].Files, Dead: dead[i]}) {
			ref.Dead = dead[i]
			out = append(out, ref)
		}
	}
	return out
}

// add lays a shard of fresh files.
func (k *kept) add(num int, fresh ...api.File) api.ShardRef {
	b, e := shard.Make(fresh...)
	must(e)
	k.lay(mani.Name(num), b)
	return api.ShardRef{Num: num, Size: len(b), Sum: crc.Sum(b)}
}

// replace puts a manifest in the place of the one that is there.
func (k *kept) replace(m api.Manifest) {
	b, e := mani.Put(m)
	must(e)
	k.lay(mani.Next(), b)
	must(k.disk.Rename(mani.Next(), mani.Now()))
	must(k.disk.Sync(mani.Now()))
}
