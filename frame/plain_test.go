package frame

import (
	"bytes"
	"encoding/binary"
	"hash/crc32"
	"math/rand"
	"slices"

	"mudlark/api"
)

// plainSealed is a body between the size and the sum that belong to it.
func plainSealed(body []byte) []byte {
	out := binary.LittleEndian.AppendUint32(nil, uint32(len(body)+8))
	out = append(out, body...)
	return binary.LittleEndian.AppendUint32(out, crc32.ChecksumIEEE(out))
}

// plainBody is the document's words of parts, one behind the other.
func plainBody(parts []api.Part) []byte {
	var out []byte
	for _, part := range parts {
		out = append(out, part.Tag)
		out = binary.AppendUvarint(out, uint64(len(part.Bytes)))
		out = append(out, part.Bytes...)
	}
	return out
}

// plainParts are the parts whose bytes a body is; false, if it is none such.
func plainParts(body []byte) (parts []api.Part, ok bool) {
	for len(body) > 0 {
		tag := body[0]
		n, size := binary.Uvarint(body[1:])
		if size <= 0 || size != len(binary.AppendUvarint(nil, n)) || n > uint64(len(body)-1-size) {
			return nil, false
		}
		end := 1 + size + int(n)
		parts = append(parts, api.Part{Tag: tag, Bytes: body[1+size : end]})
		body = body[end:]
	}
	return parts, true
}

// plainBurst is the document's words of a burst.
func plainBurst(b []byte, bit int, mask uint32) []byte {
	var bits []bool
	for _, c := range b {
		for i := range 8 {
			bits = append(bits, c/(1<<i)%2 == 1)
		}
	}
	for i := range bits {
		if bit >= 0 && i >= bit && i-bit < 32 && mask>>(i-bit)%2 == 1 {
			bits[i] = !bits[i]
		}
	}
	out := make([]byte, len(b))
	for i, set := range bits {
		if set {
			out[i/8] += 1 << (i % 8)
		}
	}
	return out
}

// sameParts says whether two lists are of the same parts.
func sameParts(a, b []api.Part) bool {
	return slices.EqualFunc(a, b, func(x, y api.Part) bool {
		return x.Tag == y.Tag && bytes.Equal(x.Bytes, y.Bytes)
	})
}

// cloned are the parts in memory of their own.
func cloned(parts []api.Part) []api.Part {
	var out []api.Part
	for _, part := range parts {
		out = append(out, api.Part{Tag: part.Tag, Bytes: bytes.Clone(part.Bytes)})
	}
	return out
}

// someBytes are so many bytes.
func someBytes(r *rand.Rand, n int) []byte {
	b := make([]byte, n)
	r.Read(b)
	return b
}

// someParts are parts, with texts around where the bytes of their sizes become more.
func someParts(r *rand.Rand) []api.Part {
	sizes := []int{0, 0, 1, 2, 3, 7, 30, 126, 127, 128, 129, 300, 16383, 16384}
	var parts []api.Part
	for range r.Intn(9) {
		parts = append(parts, api.Part{Tag: byte(r.Intn(256)), Bytes: someBytes(r, sizes[r.Intn(len(sizes))])})
	}
	return parts
}
