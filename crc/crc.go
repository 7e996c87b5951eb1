// Package crc is layer 1: sums of bytes. See shared/doc/01-crc.md.
package crc

import "iter"

// turner is what a number is turned by where the bit that was looked at is 1.
const turner = 0xEDB88320

// slow is how many bytes are taken bit by bit before a table is made: its making costs as much as these do.
const slow = 256

// Sum is the sum of the parts' bytes, one part behind the other.
func Sum(parts ...[]byte) uint32 {
	return ^take(^uint32(0), parts...)
}

// Update goes on from a sum by the bytes behind those that it is of.
func Update(sum uint32, b []byte) uint32 {
	return ^take(^sum, b)
}

// Table is what 0 becomes by each byte.
func Table() (t [256]uint32) {
	for b := range t {
		t[b] = takeByte(0, byte(b))
	}
	return t
}

// Bit takes a bit into a number.
func Bit(sum uint32, bit bool) uint32 {
	next := sum >> 1
	if lowest := sum&1 == 1; lowest != bit {
		next ^= turner
	}
	return next
}

// take takes the parts' bytes into a number: the first ones bit by bit, so that a few bytes need no table, all behind them by a table.
func take(s uint32, parts ...[]byte) uint32 {
	var table *[256]uint32
	left := slow
rows:
	for _, row := range parts {
		for at, b := range row {
			if left == 0 {
				table = orTable(table)
				s = takeRow(table, s, row[at:])
				continue rows
			}
			left--
			s = takeByte(s, b)
		}
	}
	return s
}

// orTable is a table that is there already, or else a new one.
func orTable(table *[256]uint32) *[256]uint32 {
	if table != nil {
		return table
	}
	t := Table()
	return &t
}

// takeRow takes a row of bytes by the table.
func takeRow(table *[256]uint32, s uint32, row []byte) uint32 {
	for _, b := range row {
		s = table[byte(s)^b] ^ s>>8
	}
	return s
}

// takeByte takes a byte bit by bit.
func takeByte(s uint32, b byte) uint32 {
	for bit := range bitsOf(b) {
		s = Bit(s, bit)
	}
	return s
}

// bitsOf goes through a byte's bits, the lowest one first.
func bitsOf(b byte) iter.Seq[bool] {
	return func(yield func(bool) bool) {
		for i := range 8 {
			if !yield(b>>i&1 == 1) {
				return
			}
		}
	}
}
