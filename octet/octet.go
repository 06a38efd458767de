// Package octet is layer 1: numbers of fixed width, the lowest byte first. See shared/doc/01-octet.md.
package octet

import (
	"slices"

	"taximeter/api"
)

// bitsOf is 0 of no such width. A width has the bits of the next smaller one and as many again, so each falls through to it.
func bitsOf(width int) int {
	bits := 0
	switch width {
	case 8:
		bits += 32
		fallthrough
	case 4:
		bits += 16
		fallthrough
	case 2:
		bits += 8
		fallthrough
	case 1:
		bits += 8
	}
	return bits
}

// Put answers new memory also where b has room behind its end: that room may be somebody else's.
func Put(b []byte, width int, n uint64) []byte {
	bits := bitsOf(width)
	out := make([]byte, 0, len(b)+bits/8)
	out = append(out, b...)
	for ; bits > 0; bits -= 8 {
		out = append(out, byte(n))
		n >>= 8
	}
	return out
}

// Fits: a shift by all 64 bits leaves 0, so that every number fits the greatest width.
func Fits(width int, n uint64) bool {
	bits := bitsOf(width)
	return bits > 0 && n>>bits == 0
}

// Cursor reads bytes from their beginning on. Its first error stays, so that a reader may ask once, in the end.
type Cursor struct {
	rest []byte
	err  api.Errno
}

// NewCursor copies b, which whoever handed it in may change later.
func NewCursor(b []byte) *Cursor {
	return &Cursor{rest: slices.Clone(b)}
}

// take answers the cursor's own memory: what goes out of the package is copied by who calls it.
func (c *Cursor) take(n int) []byte {
	if c == nil || c.err != api.OK || n < 0 {
		return nil
	}
	if n > len(c.rest) {
		c.err = api.ErrShort
		return nil
	}
	b := c.rest[:n]
	c.rest = c.rest[n:]
	return b
}

// Number is 0 of no such width, as that has no bytes to take.
func (c *Cursor) Number(width int) uint64 {
	n := uint64(0)
	for i, x := range c.take(bitsOf(width) / 8) {
		n |= uint64(x) << (8 * i)
	}
	return n
}

// Bytes is none of n below 0.
func (c *Cursor) Bytes(n int) []byte {
	return slices.Clone(c.take(n))
}

// Text holds the number against most ahead of the bytes: of a text that is too long none are to be read.
func (c *Cursor) Text(width, most int) string {
	n := c.Number(width)
	if c.Err() != api.OK {
		return ""
	}
	if most < 0 || n > uint64(most) {
		c.err = api.ErrForm
		return ""
	}
	return string(c.take(int(n)))
}

// Left counts the bytes behind the last one that was read, behind an error, too.
func (c *Cursor) Left() int {
	if c == nil {
		return 0
	}
	return len(c.rest)
}

// Err is the first error that was met.
func (c *Cursor) Err() api.Errno {
	if c == nil {
		return api.ErrShort
	}
	return c.err
}

// Done only asks: bytes that are left may still be read behind it.
func (c *Cursor) Done() api.Errno {
	if c.Err() == api.OK && c.Left() > 0 {
		return api.ErrForm
	}
	return c.Err()
}
