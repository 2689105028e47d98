package xz

import (
	"bytes"
	"slices"

	"hamper/api"
)

// reading is the reading of streams.
type reading struct {
	cursor
	most int
	text []byte // that came out so far
}

// readStream reads a stream, and the bytes 0 behind it.
func (r *reading) readStream() api.Errno {
	check, e := r.readHead()
	if e != api.OK {
		return e
	}
	l, e := r.readBlocks(check)
	if e != api.OK {
		return e
	}
	index, e := r.compareIndex(l)
	if e != api.OK {
		return e
	}
	if e := r.compareFoot(footOf(index, check)); e != api.OK {
		return e
	}
	return r.passNoughts()
}

// readHead reads what a stream begins with, and tells its kind of check.
func (r *reading) readHead() (check int, e api.Errno) {
	if e := r.expect([]byte(magic), api.ErrForm); e != api.OK {
		return 0, e
	}
	flags, e := r.take(flagsBytes)
	if e == api.OK {
		e = r.expect(sumOf(flags), api.ErrSum)
	}
	if e != api.OK {
		return 0, e
	}
	check = int(flags[1])
	if flags[0] != 0 || !isCheck(check) {
		return 0, api.ErrKind
	}
	return check, api.OK
}

// readBlocks reads blocks up to the index, and tells what it must say of them.
func (r *reading) readBlocks(check int) ([]Record, api.Errno) {
	var l []Record
blocks:
	for {
		left := r.left()
		switch {
		case len(left) == 0:
			return nil, api.ErrEnd
		case left[0] == indexMark:
			break blocks
		}
		b := block{cursor: cursor{bytes: left}}
		text, record, e := b.read(check, r.most-len(r.text))
		if e != api.OK {
			return nil, e
		}
		r.at += b.at
		r.text = append(r.text, text...)
		l = append(l, record)
	}
	return l, api.OK
}

// compareIndex reads an index that must say just this, and tells how many bytes it has.
func (r *reading) compareIndex(want []Record) (int, api.Errno) {
	said, used, e := ReadIndex(r.left())
	switch {
	case e != api.OK:
		return 0, e
	case !slices.Equal(said, want):
		return 0, api.ErrForm
	}
	r.at += used
	return used, api.OK
}

// compareFoot reads what a stream ends with, which must be just this. Its sum is asked for ahead of what it says.
func (r *reading) compareFoot(want []byte) api.Errno {
	b, e := r.take(footBytes)
	if e != api.OK {
		return e
	}
	said, end := b[sumBytes:footBytes-len(endMagic)], b[footBytes-len(endMagic):]
	switch {
	case string(end) != endMagic:
		return api.ErrForm
	case !bytes.Equal(b[:sumBytes], sumOf(said)):
		return api.ErrSum
	case !bytes.Equal(b, want):
		return api.ErrForm
	}
	return api.OK
}

// passNoughts reads the bytes 0 behind a stream.
func (r *reading) passNoughts() api.Errno {
	n := len(r.left()) - len(bytes.TrimLeft(r.left(), "\x00"))
	if lacking(n) > 0 {
		return api.ErrForm
	}
	r.at += n
	return api.OK
}
