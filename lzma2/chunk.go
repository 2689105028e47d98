package lzma2

import (
	"hamper/api"
	"hamper/lzma"
	"hamper/number"
)

// taker takes the next so many bytes. It alone tells that bytes are lacking, wherever they are.
type taker func(n int) ([]byte, api.Errno)

// row is what is known of the chunks so far: by it a later one may leave things as they are.
type row struct {
	begun bool
	props bool // some came since the text was forgotten by bytes that are not packed
}

// follow goes on with a chunk of that kind, if it may stand here.
func (w *row) follow(kind byte) api.Errno {
	fresh := kind == endKind || kind == freshCopy || kind >= freshKind
	switch {
	case laterCopy < kind && kind < packedKind:
		return api.ErrForm
	case !w.begun && !fresh:
		return api.ErrForm
	case packedKind <= kind && kind < propsKind && !w.props:
		return api.ErrForm
	}
	w.begun = true
	w.props = kind >= propsKind || w.props && kind != freshCopy
	return api.OK
}

// visit goes through chunks up to the end, and tells how many bytes these and the end are. Of each chunk it asks whether so many bytes fit as soon as it tells them; the whole one is handed to take.
func visit(b []byte, fits func(n int) bool, take func(c chunk) api.Errno) (used int, e api.Errno) {
	next := func(n int) ([]byte, api.Errno) {
		if n > len(b)-used {
			return nil, api.ErrEnd
		}
		used += n
		return b[used-n : used], api.OK
	}
	var w row
chunks:
	for {
		c, e := readKind(next, &w)
		switch {
		case e != api.OK:
			return 0, e
		case c.kind == endKind:
			break chunks
		}
		if e := c.read(next, fits); e != api.OK {
			return 0, e
		}
		if e := take(c); e != api.OK {
			return 0, e
		}
	}
	return used, api.OK
}

// chunk is a chunk that is read.
type chunk struct {
	kind  byte
	n     int        // bytes that come out
	props lzma.Props // if it has some
	body  []byte     // as it is, or packed
}

// packed is whether its bytes are.
func (c *chunk) packed() bool { return c.kind >= packedKind }

// hasProps is whether props stand in it.
func (c *chunk) hasProps() bool { return c.kind >= propsKind }

// readKind begins a chunk, if such a one may stand here.
func readKind(next taker, w *row) (chunk, api.Errno) {
	b, e := next(1)
	if e != api.OK {
		return chunk{}, e
	}
	return chunk{kind: b[0]}, w.follow(b[0])
}

// read reads a chunk behind its kind.
func (c *chunk) read(next taker, fits func(n int) bool) api.Errno {
	size, e := c.readSizes(next)
	switch {
	case e != api.OK:
		return e
	case !fits(c.n):
		return api.ErrBig
	}
	if c.hasProps() {
		if e := c.readProps(next); e != api.OK {
			return e
		}
	}
	c.body, e = next(size)
	return e
}

// readSizes reads how many bytes come out, and tells how many stand in the chunk.
func (c *chunk) readSizes(next taker) (int, api.Errno) {
	n, e := readNumber(next)
	if e != api.OK || !c.packed() {
		c.n = n
		return n, e
	}
	c.n = n + int(c.kind&highKindBits)<<numberBits
	return readNumber(next)
}

// readNumber reads a number of bytes.
func readNumber(next taker) (int, api.Errno) {
	b, e := next(numberBytes)
	if e != api.OK {
		return 0, e
	}
	v, _, e := number.High(b, 0, numberBytes)
	return int(v) + 1, e
}

// readProps reads the byte of props.
func (c *chunk) readProps(next taker) api.Errno {
	b, e := next(1)
	if e != api.OK {
		return e
	}
	c.props, e = lzma.Of(b[0])
	return e
}

// text tells what comes out behind a state, which goes on by it.
func (c *chunk) text(s *lzma.State) ([]byte, api.Errno) {
	if c.kind == freshCopy || c.kind >= freshKind {
		s.Forget()
	}
	switch {
	case !c.packed():
		return c.body, s.Copy(c.body)
	case c.hasProps():
		s.Reset(c.props)
	case c.kind >= restartKind:
		s.Restart()
	}
	return s.Unpack(c.body, c.n)
}
