package vfs

import "bytes"

// file is bytes that may be damaged.
type file struct {
	content
	damaged bool
}

// content is bytes, of which the first ones are safe.
type content struct {
	bytes []byte
	safe  int
}

// tearBits is how many bits of a tear tell which bytes are 0; behind the last one it begins anew.
const tearBits = 63

// size is how many bytes there are.
func (c *content) size() int {
	return len(c.bytes)
}

// loose is how many of them are not safe.
func (c *content) loose() int {
	return c.size() - c.safe
}

// piece is n bytes from a place on, or as many as there are.
func (c *content) piece(at, n int) []byte {
	rest := c.bytes[min(at, c.size()):]
	return bytes.Clone(rest[:min(n, len(rest))])
}

// add puts bytes behind those that are there, and tells how many these are.
func (c *content) add(b []byte) int {
	c.bytes = append(c.bytes, b...)
	return len(b)
}

// settle makes all bytes safe.
func (c *content) settle() {
	c.safe = c.size()
}

// cut leaves the first n bytes, and tells how many are lost.
func (c *content) cut(n int) int {
	lost := c.size() - n
	c.bytes = bytes.Clone(c.bytes[:n])
	c.safe = min(c.safe, n)
	return lost
}

// tear leaves some first ones of the bytes that are not safe, some of them as 0, makes all of it safe, and tells how many are lost.
func (c *content) tear(stay, zeros int) int {
	lost := c.cut(c.safe + modulo(stay, c.loose()+1))
	for i := range c.loose() {
		if zeros>>(i%tearBits)&1 == 1 {
			c.bytes[c.safe+i] = 0
		}
	}
	c.settle()
	return lost
}
