package lzma

import (
	"hamper/ranger"
	"hamper/token"
)

// few are the matches of a writing that are sought without an index: it would cost more than it saves.
const few = 64

// writing is a call of Pack: the state as it goes on, and what is written.
type writing struct {
	State
	out    *ranger.Encoder
	all    []byte // the text, and behind it all that is to be packed
	sought int    // matches
	index  *index // none for the first few of them
}

// newWriting begins to pack bytes behind a state.
func newWriting(s *State, b []byte) *writing {
	out, _ := ranger.New(len(s.chances)) // there are fewer than an encoder may have
	out.Set(s.chances)
	return &writing{State: *s, out: out, all: append(s.text, b...)}
}

// learnt tells the state behind all that was written.
func (w *writing) learnt() State {
	w.chances = w.out.Chances()
	w.cut()
	return w.State
}

// putAll writes all that is left.
func (w *writing) putAll() {
	for len(w.text) < len(w.all) {
		w.come(w.all[:len(w.text)+w.put()])
	}
}

// put writes the next piece, and tells how many bytes it has.
func (w *writing) put() int {
	j, again := w.farOne()
	length, distance := w.match(again)
	switch {
	case again >= leastPiece && again+1 >= length:
		w.putFar(j, again)
		return again
	case length >= leastPiece:
		w.putMatch(uint32(distance-1), length)
		return length
	}
	w.putByte(w.all[len(w.text)])
	return 1
}

// left tells the bytes that a piece may have.
func (w *writing) left() []byte {
	rest := w.all[len(w.text):]
	return rest[:min(len(rest), longestPiece)]
}

// farOne tells which of the far ones has the longest piece, and how long that is.
func (w *writing) farOne() (j, length int) {
	left := w.left()
	for i, f := range w.far {
		if !w.sees(f) {
			continue
		}
		if n := common(w.all[len(w.text)-1-int(f):], left); n > length {
			j, length = i, n
		}
	}
	return j, length
}

// match tells the match; none, if the far one is so long that whatever match there is would not be taken.
func (w *writing) match(again int) (length, distance int) {
	if again >= leastPiece && again+1 >= len(w.left()) {
		return 0, 0
	}
	w.sought++
	if w.sought <= few {
		length, distance, _ = token.Match(w.all, len(w.text), w.window, longestPiece) // its arguments are such that may be
		return length, distance
	}
	if w.index == nil {
		w.index = newIndex(w.all, len(w.text), w.window)
	}
	return w.index.match(len(w.text))
}

// putByte writes a byte.
func (w *writing) putByte(c byte) {
	w.out.Bit(w.matchChance(), 0)
	at, walk := w.bytePlace(), w.byteWalk()
	for turn := range byteBits {
		bit := int(c) >> (byteBits - 1 - turn) & 1
		w.out.Bit(at+walk.chance(), bit)
		walk.step(bit)
	}
	w.afterByte()
}

// putMatch writes a match.
func (w *writing) putMatch(f uint32, length int) {
	w.out.Bit(w.matchChance(), 1)
	w.out.Bit(atRep+w.z, 0)
	w.putLength(atMatchLengths, length)
	w.putBack(f, length)
	w.afterMatch(f)
}

// putBack writes how far back a match of so many bytes lies.
func (w *writing) putBack(f uint32, length int) {
	slot := slotOf(f)
	w.out.Tree(slotTree(length), slot, slotBits)
	if slot < openSlot {
		return
	}
	n, rest := restBits(slot), int(f-leastOf(slot))
	if slot < directSlot {
		w.out.Reverse(nearTree(slot), rest, n)
		return
	}
	w.out.Direct(rest>>alignBits, n-alignBits)
	w.out.Reverse(atAlign, rest%(1<<alignBits), alignBits)
}

// putFar writes a far one.
func (w *writing) putFar(j, length int) {
	w.out.Bit(w.matchChance(), 1)
	w.out.Bit(atRep+w.z, 1)
	if j == 0 {
		w.out.Bit(atRep0+w.z, 0)
		w.out.Bit(w.longChance(), 1)
	} else {
		w.out.Bit(atRep0+w.z, 1)
		w.putLater(j)
	}
	w.putLength(atFarLengths, length)
	w.afterFar(j)
}

// putLater writes which far one behind F0 it is.
func (w *writing) putLater(j int) {
	if j == 1 {
		w.out.Bit(atRep1+w.z, 0)
		return
	}
	w.out.Bit(atRep1+w.z, 1)
	w.out.Bit(atRep2+w.z, j-2)
}

// putLength writes a length by the chances of one kind.
func (w *writing) putLength(at, length int) {
	if length < midPiece {
		w.out.Bit(at+atChoice, 0)
		w.out.Tree(at+w.lowTree(), length-leastPiece, lowBits)
		return
	}
	w.out.Bit(at+atChoice, 1)
	if length < highPiece {
		w.out.Bit(at+atChoice2, 0)
		w.out.Tree(at+w.midTree(), length-midPiece, midBits)
		return
	}
	w.out.Bit(at+atChoice2, 1)
	w.out.Tree(at+atHigh, length-highPiece, highBits)
}
