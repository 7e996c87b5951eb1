package wire

import (
	"math/rand"
	"slices"
)

// mostNum is the greatest number (2^40).
const mostNum = 1099511627776

// isNumber is the document's word of a number.
func isNumber(n int) bool { return n >= 0 && n <= mostNum }

// isRising is the document's word of a rising row.
func isRising(row []int) bool {
	for i, n := range row {
		if !isNumber(n) || i > 0 && n <= row[i-1] {
			return false
		}
	}
	return true
}

// plainNumber is the document's words of a number's bytes.
func plainNumber(n int) []byte {
	var out []byte
	for n >= 128 {
		out = append(out, byte(128+n%128))
		n /= 128
	}
	return append(out, byte(n))
}

// plainFixed is the document's words of a fixed number's bytes.
func plainFixed(n uint32) []byte {
	var out []byte
	for range 4 {
		out = append(out, byte(n%256))
		n /= 256
	}
	return out
}

// plainText is the document's words of a text's bytes.
func plainText(text []byte) []byte {
	return append(plainNumber(len(text)), text...)
}

// plainRising is the document's words of a rising row's bytes.
func plainRising(row []int) []byte {
	out := plainNumber(len(row))
	for i, n := range row {
		if i == 0 {
			out = append(out, plainNumber(n)...)
		} else {
			out = append(out, plainNumber(n-row[i-1]-1)...)
		}
	}
	return out
}

// getNumber looks for a number, at most most, whose bytes b begins with, and tells how many these are; -1 bytes where there is none.
func getNumber(b []byte, most int) (n, size int) {
	power := 1
	for i := 0; i < len(b) && i < 8; i++ {
		n += int(b[i]%128) * power
		power *= 128
		if isNumber(n) && n <= most && slices.Equal(plainNumber(n), b[:i+1]) {
			return n, i + 1
		}
	}
	return 0, -1
}

// getText looks for a text likewise.
func getText(b []byte, most int) (text []byte, size int) {
	n, size := getNumber(b, most)
	if size < 0 || n > len(b)-size {
		return nil, -1
	}
	return b[size : size+n], size + n
}

// getRising looks for a rising row likewise.
func getRising(b []byte, many, most int) (row []int, size int) {
	count, size := getNumber(b, many)
	if size < 0 || count > len(b) {
		return nil, -1
	}
	for i := range count {
		gap, more := getNumber(b[size:], mostNum)
		if more < 0 {
			return nil, -1
		}
		size += more
		if i > 0 {
			gap += row[i-1] + 1
		}
		if gap > most || gap > mostNum {
			return nil, -1
		}
		row = append(row, gap)
	}
	return row, size
}

// someNumber is a number of any length.
func someNumber(r *rand.Rand) int {
	return min(mostNum, r.Intn(2<<r.Intn(41))+r.Intn(2))
}

// someRow is a rising row, with near and far neighbours.
func someRow(r *rand.Rand) []int {
	var row []int
	for range r.Intn(9) {
		n := someNumber(r)
		row = append(row, n)
		if r.Intn(2) == 0 && n < mostNum {
			row = append(row, n+1)
		}
	}
	slices.Sort(row)
	return slices.Compact(row)
}

// someText is some bytes.
func someText(r *rand.Rand) []byte {
	text := make([]byte, r.Intn(2<<r.Intn(9)))
	r.Read(text)
	return text
}

// someBytes are bytes of which many are a number's: small ones, and ends of bytes' ranges.
func someBytes(r *rand.Rand) []byte {
	const often = "\x00\x00\x01\x01\x02\x03\x04\x07\x1f\x20\x21\x7f\x80\x80\x81\x82\xac\xff"
	b := make([]byte, r.Intn(14))
	for i := range b {
		b[i] = often[r.Intn(len(often))]
		if r.Intn(8) == 0 {
			b[i] = byte(r.Intn(256))
		}
	}
	return b
}

// edges are numbers around those at which something changes, and such as are none.
func edges() []int {
	const greatest = int(^uint(0) >> 1)
	out := []int{-greatest - 1, -greatest, -mostNum, -128, -2, -1, greatest - 1, greatest, 2 * mostNum, 4*mostNum - 1, 4 * mostNum}
	for at := 1; at <= mostNum; at *= 2 {
		out = append(out, at-1, at, at+1)
	}
	return out
}
