// Package bits is layer 1: bits in bytes, in both orders that archives have. See shared/doc/01-bits.md.
package bits

import "hamper/api"

// mostBits is how many bits one number may have.
const mostBits = 64

// Writer writes bits.
type Writer struct {
	made  bool // by New, so that a plain Writer{} is told from it
	high  bool
	bytes []byte
	free  int // places in the last byte that no bit was put to yet; they hold noughts
}

// New begins with nothing; high: the highest bits come first, and fill a byte from above.
func New(high bool) *Writer { return &Writer{made: true, high: high} }

// Put writes a number of n bits.
func (w *Writer) Put(v uint64, n int) api.Errno {
	if !w.good() {
		return api.ErrNil
	}
	if n < 0 || n > mostBits || v>>n != 0 {
		return api.ErrArg
	}
	w.fill(v, n)
	return api.OK
}

// Align fills the last byte with noughts.
func (w *Writer) Align() api.Errno {
	if !w.good() {
		return api.ErrNil
	}
	w.free = 0
	return api.OK
}

// PutBytes writes whole bytes.
func (w *Writer) PutBytes(b []byte) api.Errno {
	if !w.good() {
		return api.ErrNil
	}
	if w.free != 0 {
		return api.ErrArg
	}
	w.bytes = append(w.bytes, b...)
	return api.OK
}

// Len tells how many bits there are.
func (w *Writer) Len() int {
	if !w.good() {
		return 0
	}
	return 8*len(w.bytes) - w.free
}

// Bytes tells all bytes, the last one filled with noughts.
func (w *Writer) Bytes() []byte {
	if !w.good() {
		return nil
	}
	return fresh(w.bytes)
}

// good is false of a writer that New did not give.
func (w *Writer) good() bool { return w != nil && w.made }

// fill lays the n bits of v behind, byte by byte.
func (w *Writer) fill(v uint64, n int) {
	done := 0
filling:
	for done < n {
		if w.free == 0 {
			w.bytes = append(w.bytes, 0)
			w.free = 8
		}
		last := len(w.bytes) - 1
		for range w.free {
			bit := byte(v>>rank(done, n, w.high)) & 1
			w.bytes[last] |= bit << rank(8-w.free, 8, w.high)
			w.free--
			done++
			if done == n {
				break filling
			}
		}
	}
}

// Reader reads bits.
type Reader struct {
	made  bool // by NewReader, so that a plain Reader{} is told from it
	high  bool
	bytes []byte
	at    int // bits that were read
}

// NewReader begins at the first bit.
func NewReader(b []byte, high bool) *Reader {
	return &Reader{made: true, high: high, bytes: fresh(b)}
}

// Get reads a number of n bits.
func (r *Reader) Get(n int) (uint64, api.Errno) {
	if !r.good() {
		return 0, api.ErrNil
	}
	if n < 0 || n > mostBits {
		return 0, api.ErrArg
	}
	if n > r.left() {
		return 0, api.ErrEnd
	}
	v := uint64(0)
	for i := range n {
		place := r.at + i
		bit := r.bytes[place/8] >> rank(place%8, 8, r.high) & 1
		v |= uint64(bit) << rank(i, n, r.high)
	}
	r.at += n
	return v, api.OK
}

// Align goes on to the next whole byte.
func (r *Reader) Align() api.Errno {
	if !r.good() {
		return api.ErrNil
	}
	if !r.whole() {
		r.at += 8 - r.at%8
	}
	return api.OK
}

// Bytes reads n whole bytes.
func (r *Reader) Bytes(n int) ([]byte, api.Errno) {
	if !r.good() {
		return nil, api.ErrNil
	}
	if n < 0 || !r.whole() {
		return nil, api.ErrArg
	}
	rest := r.bytes[r.at/8:]
	if n > len(rest) {
		return nil, api.ErrEnd
	}
	r.at += 8 * n
	return fresh(rest[:n]), api.OK
}

// At tells at which bit it stands.
func (r *Reader) At() int {
	if !r.good() {
		return 0
	}
	return r.at
}

// Left tells how many bits are left.
func (r *Reader) Left() int {
	if !r.good() {
		return 0
	}
	return r.left()
}

// good is false of a reader that NewReader did not give.
func (r *Reader) good() bool { return r != nil && r.made }

// left is Left of a good reader.
func (r *Reader) left() int { return 8*len(r.bytes) - r.at }

// whole is whether a byte begins here.
func (r *Reader) whole() bool { return r.at%8 == 0 }

// rank tells which power of 2 the i-th of n bits stands for, whether they are a number's or a byte's: this is all in which the two orders differ.
func rank(i, n int, high bool) int {
	if high {
		return n - 1 - i
	}
	return i
}

// fresh copies bytes into memory of just their length, so that nobody's spare room is shared.
func fresh(b []byte) []byte {
	c := make([]byte, len(b))
	copy(c, b)
	return c
}
