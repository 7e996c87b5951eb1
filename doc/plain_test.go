package doc

import (
	"encoding/binary"
	"hash/crc32"
	"math/rand"
	"path"
	"slices"
	"strings"

	"mudlark/api"
	"mudlark/lang"
)

// plainNumber is a number's bytes (chapter 2).
func plainNumber(n int) []byte { return binary.AppendUvarint(nil, uint64(n)) }

// plainPut is the document's words of documents' bytes.
func plainPut(l []api.Doc) []byte {
	out := plainNumber(len(l))
	for _, d := range l {
		out = append(append(out, plainNumber(len(d.Path))...), d.Path...)
		out = binary.LittleEndian.AppendUint32(out, d.Sum)
		out = binary.AppendUvarint(out, uint64(d.Size))
	}
	return out
}

// risingPaths says whether paths are right, and rise, each once, and are not too many.
func risingPaths(l []string) bool {
	wrong := func(p string) bool { return !lang.Right(p) }
	return len(l) <= 4000 && !slices.ContainsFunc(l, wrong) && slices.Equal(l, slices.Compact(slices.Sorted(slices.Values(l))))
}

// plainFiles is the document's words of right files.
func plainFiles(l []api.File) bool {
	var paths []string
	for _, f := range l {
		if paths = append(paths, f.Path); len(f.Bytes) > 1<<20 {
			return false
		}
	}
	return risingPaths(paths)
}

// plainOf is the document's words of a file's document.
func plainOf(f api.File) api.Doc {
	return api.Doc{Path: f.Path, Lang: lang.Of(f.Path), Sum: crc32.ChecksumIEEE(f.Bytes), Size: len(f.Bytes)}
}

// plainRight is the document's words of right documents.
func plainRight(l []api.Doc) bool {
	var paths []string
	for _, d := range l {
		if paths = append(paths, d.Path); d.Lang != lang.Of(d.Path) || d.Size < 0 || d.Size > 1<<20 {
			return false
		}
	}
	return risingPaths(paths)
}

// somePath is a path of chance, mostly a right one.
func somePath(r *rand.Rand) string {
	parts := []string{"a", "b", "lib", "main.go", "x.py", "y.c", "z.tar.gz", "Makefile", ".go", "\xff", "a b"}
	if r.Intn(60) == 0 {
		parts = []string{"", ".", "..", "a\n", "\x7f", strings.Repeat("a", 201)}
	}
	p := parts[r.Intn(len(parts))]
	for range r.Intn(3) {
		p = path.Join(parts[r.Intn(len(parts))], "d") + "/" + p
	}
	return p
}

// someFiles is files of chance, mostly right ones.
func someFiles(r *rand.Rand) []api.File {
	var out []api.File
	for range r.Intn(7) {
		b := make([]byte, r.Intn(2)*r.Intn(300))
		r.Read(b)
		out = append(out, api.File{Path: somePath(r), Bytes: b})
	}
	if r.Intn(8) > 0 {
		slices.SortFunc(out, func(a, b api.File) int { return strings.Compare(a.Path, b.Path) })
		out = slices.CompactFunc(out, func(a, b api.File) bool { return a.Path == b.Path })
	}
	return out
}

// spoilt is documents in which something is another thing.
func spoilt(r *rand.Rand, l []api.Doc) []api.Doc {
	l = slices.Clone(l)
	if len(l) == 0 {
		return []api.Doc{{}}
	}
	d := &l[r.Intn(len(l))]
	switch r.Intn(4) {
	case 0:
		d.Path = somePath(r)
	case 1:
		d.Lang = []string{"", "go", "python", "c"}[r.Intn(4)]
	case 2:
		d.Sum = r.Uint32()
	case 3:
		d.Size = []int{-1 << 63, -1, 0, 1, 1 << 20, 1<<20 + 1, 1 << 40, 1<<63 - 1}[r.Intn(8)]
	}
	return l
}
