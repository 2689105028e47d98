package xz

import (
	"bytes"

	"hamper/api"
	"hamper/lzma2"
)

// unsaid stands for a number that a header does not say.
const unsaid = -1

// header is what a block's header says: how many bytes are packed and how many come out, each of them a number or unsaid, and how far back its chunks look.
type header struct{ packed, text, window int }

// block is the reading of a block: it embeds the cursor that reads its fields, from the block's first byte on.
type block struct {
	cursor
	header
}

// read reads a block, of which at most so many bytes may come out, and tells these and its record.
func (b *block) read(check, most int) (text []byte, r Record, e api.Errno) {
	if e := b.readHeader(); e != api.OK {
		return nil, Record{}, e
	}
	text, e = b.readChunks(most)
	if e != api.OK {
		return nil, Record{}, e
	}
	sum := checkOf(check, text)
	r = Record{Size: b.at + len(sum), Text: len(text)}
	e = b.readFill()
	if e == api.OK {
		e = b.expect(sum, api.ErrSum)
	}
	if e != api.OK {
		return nil, Record{}, e
	}
	return text, r, api.OK
}

// readHeader reads a block's header, whose first byte tells how long it is. A field that lacks in it is ErrForm, as bytes behind the header can't be that field.
func (b *block) readHeader() api.Errno {
	head, e := b.take(unit*(1+int(b.bytes[0])) - sumBytes)
	if e == api.OK {
		e = b.readSum()
	}
	switch {
	case e != api.OK:
		return e
	case head[1]&notKnown != 0:
		return api.ErrKind
	}
	fields := cursor{bytes: head, at: 2}
	b.header, e = fields.readFields(head[1])
	if e == api.ErrEnd {
		return api.ErrForm
	}
	return e
}

// readFields reads what stands in a header behind its flags.
func (c *cursor) readFields(flags byte) (h header, e api.Errno) {
	if h.packed, e = c.readSaid(flags&hasPacked != 0); e != api.OK {
		return header{}, e
	}
	if h.text, e = c.readSaid(flags&hasText != 0); e != api.OK {
		return header{}, e
	}
	if h.window, e = c.readFilter(); e != api.OK {
		return header{}, e
	}
	if len(bytes.Trim(c.left(), "\x00")) > 0 {
		return header{}, api.ErrForm
	}
	return h, api.OK
}

// readSaid reads a number, if the header says it.
func (c *cursor) readSaid(is bool) (int, api.Errno) {
	if !is {
		return unsaid, api.OK
	}
	return c.readLong()
}

// readFilter reads the one filter that may be, and tells how far back its chunks look.
func (c *cursor) readFilter() (int, api.Errno) {
	filter, e := c.readLong()
	switch {
	case e != api.OK:
		return 0, e
	case filter != chunkFilter:
		return 0, api.ErrKind
	}
	if e := c.expect([]byte{windowBytes}, api.ErrForm); e != api.OK {
		return 0, e
	}
	b, e := c.take(windowBytes)
	if e != api.OK {
		return 0, e
	}
	return lzma2.Window(b[0])
}

// readChunks reads a block's chunks, and tells their text, of at most so many bytes. Both must be as long as the header says.
func (b *block) readChunks(most int) ([]byte, api.Errno) {
	text, used, e := lzma2.Read(b.left(), b.window, most)
	switch {
	case e != api.OK:
		return nil, e
	case b.packed != unsaid && b.packed != used, b.text != unsaid && b.text != len(text):
		return nil, api.ErrForm
	}
	b.at += used
	return text, api.OK
}
