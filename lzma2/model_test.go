package lzma2_test

import (
	"hamper/api"
	"hamper/lzma"
)

// The model tells each answer by the document's words alone, by a state of layer 14.

// meaning is what the words say of a kind.
type meaning struct {
	none, end, packed      bool
	forget, reset, restart bool
}

func meaningOf(kind byte) meaning {
	switch {
	case kind == 0x00:
		return meaning{end: true}
	case kind == 0x01:
		return meaning{forget: true}
	case kind == 0x02:
		return meaning{}
	case kind < 0x80:
		return meaning{none: true}
	case kind < 0xa0:
		return meaning{packed: true}
	case kind < 0xc0:
		return meaning{packed: true, restart: true}
	case kind < 0xe0:
		return meaning{packed: true, reset: true}
	}
	return meaning{packed: true, reset: true, forget: true}
}

// told is what chunks tell.
type told struct {
	out   []byte
	sizes []int
	used  int
}

// tell reads chunks by the words; without a state they are not unpacked, and any number of bytes may come out.
func tell(b []byte, s *lzma.State, most int) (told, api.Errno) {
	var l told
	props, at := false, 0
	for {
		if len(b) == at {
			return told{}, api.ErrEnd
		}
		kind := b[at]
		m := meaningOf(kind)
		switch {
		case m.none:
			return told{}, api.ErrForm
		case at == 0 && !m.end && kind != 0x01 && kind < 0xe0:
			return told{}, api.ErrForm
		case kind >= 0x80 && kind <= 0xbf && !props:
			return told{}, api.ErrForm
		}
		at++
		if m.end {
			l.used = at
			return l, api.OK
		}
		numbers := 2
		if m.packed {
			numbers = 4
		}
		if len(b) < at+numbers {
			return told{}, api.ErrEnd
		}
		n := int(b[at])*256 + int(b[at+1]) + 1
		size := n
		if m.packed {
			n += int(kind) % 32 * 65536
			size = int(b[at+2])*256 + int(b[at+3]) + 1
		}
		at += numbers
		if s != nil && len(l.out)+n > most {
			return told{}, api.ErrBig
		}
		var p lzma.Props
		if m.reset {
			if len(b) == at {
				return told{}, api.ErrEnd
			}
			var e api.Errno
			if p, e = lzma.Of(b[at]); e != api.OK {
				return told{}, e
			}
			at++
		}
		if len(b) < at+size {
			return told{}, api.ErrEnd
		}
		props = (props || m.reset) && kind != 0x01
		l.sizes = append(l.sizes, n)
		if s != nil {
			piece, e := unpack(s, m, p, b[at:at+size], n)
			if e != api.OK {
				return told{}, e
			}
			l.out = append(l.out, piece...)
		}
		at += size
	}
}

// unpack does what a chunk says with a state.
func unpack(s *lzma.State, m meaning, p lzma.Props, body []byte, n int) ([]byte, api.Errno) {
	if m.forget {
		s.Forget()
	}
	if m.reset {
		s.Reset(p)
	}
	if m.restart {
		s.Restart()
	}
	if m.packed {
		return s.Unpack(body, n)
	}
	return body, s.Copy(body)
}

func modelRead(b []byte, window, most int) ([]byte, int, api.Errno) {
	if window < 1 || window > 1<<28 || most < 0 || most > api.MaxBytes {
		return nil, 0, api.ErrArg
	}
	s, _ := lzma.New(window)
	l, e := tell(b, s, most)
	return l.out, l.used, e
}

func modelSizes(b []byte) ([]int, api.Errno) {
	l, e := tell(b, nil, 0)
	if e == api.OK && l.used < len(b) {
		return nil, api.ErrTail
	}
	return l.sizes, e
}

func modelMake(b []byte, block int) ([]byte, api.Errno) {
	if block < 1 || block > 65536 {
		return nil, api.ErrArg
	}
	if len(b) > api.MaxBytes {
		return nil, api.ErrBig
	}
	s, _ := lzma.New(1 << 23)
	var out []byte
	for at := 0; at < len(b); at += block {
		piece := b[at:min(len(b), at+block)]
		s.Reset(lzma.Props{Lc: 3, Lp: 0, Pb: 2})
		packed, _ := s.Pack(piece)
		kinds := [2]byte{0x02, 0xc0}
		if at == 0 {
			kinds = [2]byte{0x01, 0xe0}
		}
		n, m := len(piece)-1, len(packed)-1
		if m < n {
			out = append(out, kinds[1], byte(n/256), byte(n%256), byte(m/256), byte(m%256), 93)
			out = append(out, packed...)
		} else {
			out = append(out, kinds[0], byte(n/256), byte(n%256))
			out = append(out, piece...)
		}
	}
	return append(out, 0), api.OK
}
