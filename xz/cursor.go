package xz

import (
	"bytes"

	"hamper/api"
	"hamper/number"
)

// cursor reads fields, one behind the other.
type cursor struct {
	bytes []byte
	at    int
}

// left tells the bytes that are not read yet.
func (c *cursor) left() []byte { return c.bytes[c.at:] }

// take reads so many bytes.
func (c *cursor) take(n int) ([]byte, api.Errno) {
	if n > len(c.left()) {
		return nil, api.ErrEnd
	}
	from := c.at
	c.at += n
	return c.bytes[from:c.at], api.OK
}

// expect reads bytes that must be just these, or tells that error.
func (c *cursor) expect(want []byte, wrong api.Errno) api.Errno {
	b, e := c.take(len(want))
	if e == api.OK && !bytes.Equal(b, want) {
		e = wrong
	}
	return e
}

// readLong reads a long number. It is an int, as it is below 2^63.
func (c *cursor) readLong() (int, api.Errno) {
	v, next, e := number.Var(c.bytes, c.at)
	if e != api.OK {
		return 0, e
	}
	c.at = next
	return int(v), api.OK
}

// readFill reads the bytes 0 that fill up all that was read, one by one, as one that is another is told ahead of one that lacks behind it.
func (c *cursor) readFill() api.Errno {
	for range lacking(c.at) {
		if e := c.expect([]byte{0}, api.ErrForm); e != api.OK {
			return e
		}
	}
	return api.OK
}

// readSum reads the sum of all that was read.
func (c *cursor) readSum() api.Errno { return c.expect(sumOf(c.bytes[:c.at]), api.ErrSum) }
