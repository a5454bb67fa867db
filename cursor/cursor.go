// Package cursor is layer 1: see shared/doc/01-cursor.md.
package cursor

import (
	"bytes"

	"comptoir/api"
)

// widest is how many bytes a number has at most.
const widest = 8

// Cursor is a place in bytes that nobody else writes into.
type Cursor struct {
	b  []byte
	at int
}

// New is a cursor at the beginning of a copy of b.
func New(b []byte) *Cursor {
	return &Cursor{b: bytes.Clone(b)}
}

// Take reads the next n bytes.
func (c *Cursor) Take(n int) ([]byte, api.Errno) {
	return read(c.next, n, bytes.Clone)
}

// Text reads the next n bytes as a text.
func (c *Cursor) Text(n int) (string, api.Errno) {
	return read(c.next, n, text)
}

// Number reads the next n bytes as a number, the highest first.
func (c *Cursor) Number(n int) (uint64, api.Errno) {
	return read(c.narrow, n, number)
}

// Left tells how many bytes are left.
func (c *Cursor) Left() int {
	if c == nil {
		return 0
	}
	return len(c.b) - c.at
}

// At tells how many bytes were read.
func (c *Cursor) At() int {
	if c == nil {
		return 0
	}
	return c.at
}

// Put tells b with the n lowest bytes of v behind it, the highest first.
func Put(b []byte, v uint64, n int) []byte {
	n = min(max(n, 0), widest)
	// Not append to b itself: the room behind its end is the caller's.
	out := make([]byte, len(b), len(b)+n)
	copy(out, b)
	for i := range n {
		out = append(out, byte(v>>(8*(n-1-i))))
	}
	return out
}

// read makes a value of the n bytes that a reader tells; none beside an error.
func read[T any](reader func(int) ([]byte, api.Errno), n int, made func([]byte) T) (T, api.Errno) {
	b, e := reader(n)
	if e != api.OK {
		var none T
		return none, e
	}
	return made(b), api.OK
}

// next reads n bytes. They are the cursor's own: not to be handed out as they are.
func (c *Cursor) next(n int) ([]byte, api.Errno) {
	switch {
	case c == nil:
		return nil, api.ErrNil
	case n < 0:
		return nil, api.ErrArg
	case n > c.Left():
		return nil, api.ErrShort
	}
	b := c.b[c.at : c.at+n]
	c.at += n
	return b, api.OK
}

// narrow is next for what has the width of a number.
func (c *Cursor) narrow(n int) ([]byte, api.Errno) {
	if c != nil && (n < 1 || n > widest) {
		return nil, api.ErrArg
	}
	return c.next(n)
}

func text(b []byte) string {
	return string(b)
}

func number(b []byte) uint64 {
	var v uint64
	for _, x := range b {
		v = v<<8 | uint64(x)
	}
	return v
}
