package lzma

import (
	"hamper/api"
	"hamper/ranger"
)

// reading is a call of Unpack: the state as it goes on, and what is read.
type reading struct {
	State
	in     *ranger.Decoder
	failed api.Errno // what the decoder told, if anything: it does so again in each call behind it, so that this is asked for once a piece
}

// newReading begins to unpack bytes behind a state.
func newReading(s *State, packed []byte) (*reading, api.Errno) {
	in, e := ranger.NewDecoder(packed, len(s.chances))
	if e != api.OK {
		return nil, e
	}
	in.Set(s.chances)
	return &reading{State: *s, in: in}, api.OK
}

// learnt tells the state behind all that was read.
func (r *reading) learnt() State {
	r.chances = r.in.Chances()
	r.cut()
	return r.State
}

// getAll reads pieces until n bytes came, behind which nothing may stand.
func (r *reading) getAll(n int) api.Errno {
pieces:
	for end := len(r.text) + n; len(r.text) < end; {
		if r.bit(r.matchChance()) == 0 {
			c := r.getByte()
			if r.failed != api.OK {
				break pieces
			}
			r.come(append(r.text, c))
			continue pieces
		}
		length := r.getPiece()
		switch f := r.far[0]; {
		case r.failed != api.OK:
			break pieces
		case f == noFar || length > end-len(r.text):
			return api.ErrForm
		case !r.sees(f):
			return api.ErrBack
		}
		r.repeat(length)
	}
	if r.failed == api.OK && !r.in.Done() {
		return api.ErrForm
	}
	return r.failed
}

// repeat puts so many bytes from F0 + 1 back behind the text, one by one, as the piece may reach into itself.
func (r *reading) repeat(length int) {
	for range length {
		r.come(append(r.text, r.back(r.far[0])))
	}
}

// getByte reads a byte behind its first bit.
func (r *reading) getByte() byte {
	at, walk := r.bytePlace(), r.byteWalk()
	for range byteBits {
		walk.step(r.bit(at + walk.chance()))
	}
	r.afterByte()
	return walk.done()
}

// getPiece reads a piece that stood ahead, behind its first bit, and tells how many bytes it has. How far back it lies is F0 then.
func (r *reading) getPiece() int {
	if r.bit(atRep+r.z) == 0 {
		length := r.getLength(atMatchLengths)
		r.afterMatch(r.getBack(length))
		return length
	}
	j := r.getFar()
	if j == 0 && r.bit(r.longChance()) == 0 {
		r.afterOne()
		return 1
	}
	length := r.getLength(atFarLengths)
	r.afterFar(j)
	return length
}

// getFar reads which far one it is.
func (r *reading) getFar() int {
	if r.bit(atRep0+r.z) == 0 {
		return 0
	}
	if r.bit(atRep1+r.z) == 0 {
		return 1
	}
	return 2 + r.bit(atRep2+r.z)
}

// getBack reads how far back a match of so many bytes lies.
func (r *reading) getBack(length int) uint32 {
	slot := r.tree(slotTree(length), slotBits)
	least := leastOf(slot)
	if slot < openSlot {
		return least
	}
	n := restBits(slot)
	if slot < directSlot {
		return least + r.reverse(nearTree(slot), n)
	}
	high := r.direct(n - alignBits)
	return least + high<<alignBits + r.reverse(atAlign, alignBits)
}

// getLength reads a length by the chances of one kind.
func (r *reading) getLength(at int) int {
	if r.bit(at+atChoice) == 0 {
		return leastPiece + r.tree(at+r.lowTree(), lowBits)
	}
	if r.bit(at+atChoice2) == 0 {
		return midPiece + r.tree(at+r.midTree(), midBits)
	}
	return highPiece + r.tree(at+atHigh, highBits)
}

// bit reads a bit by a chance.
func (r *reading) bit(chance int) int {
	v, e := r.in.Bit(chance)
	r.failed = e
	return v
}

// tree reads a number of n bits by a tree of chances, the highest first.
func (r *reading) tree(base, n int) int {
	v, e := r.in.Tree(base, n)
	r.failed = e
	return v
}

// reverse reads one with the lowest bit first.
func (r *reading) reverse(base, n int) uint32 {
	v, e := r.in.Reverse(base, n)
	r.failed = e
	return uint32(v)
}

// direct reads a number of n bits, each as likely as not.
func (r *reading) direct(n int) uint32 {
	v, e := r.in.Direct(n)
	r.failed = e
	return uint32(v)
}
