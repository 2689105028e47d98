package lzma

import (
	"math/bits"
	"slices"

	"hamper/token"
)

const (
	keyBytes    = 8  // of a text that a key holds
	longestSize = 16 // of pieces that an index looks up: two keys

	leastRoom = 10 // bits of a hash
	mostRoom  = 20

	spread = 0x9e3779b97f4a7c15 // a number whose multiples look like chance
)

// level keeps where pieces of one size stood, by a hash of them. Places are kept one greater, so that 0 is none.
type level struct {
	size   int
	shift  int     // leaves as many of the highest bits of a number as a hash has
	last   []int32 // of each hash the last place
	before []int32 // of each place the one before it that has the same hash
}

// index keeps where the pieces of a text stood, as far as it was filled, in levels of rising size: where a level has the piece, those of a lesser size need not be looked at. It tells what token.Match does, which goes through all bytes in sight each time.
type index struct {
	text   []byte
	window int
	levels []level
	filled int
}

// newIndex makes an index of a text whose places from a first one on are to be sought.
func newIndex(text []byte, from, window int) *index {
	x := &index{text: text, window: window, filled: from - min(from, window)}
	room := max(leastRoom, min(bits.Len(uint(len(text))), mostRoom))
	for size := leastPiece; size <= longestSize; size *= 2 {
		x.levels = append(x.levels, level{size: size, shift: 64 - room, last: make([]int32, 1<<room), before: make([]int32, len(text))})
	}
	return x
}

// match tells the longest piece at a place that a match may be, the nearest of several.
func (x *index) match(at int) (length, distance int) {
	x.fill(at)
	most := min(longestPiece, len(x.text)-at)
	for _, l := range slices.Backward(x.levels) {
		if most < l.size {
			continue
		}
		if length, distance = x.walk(l, at, most); length > 0 {
			return length, distance
		}
		most = l.size - 1
	}
	return 0, 0
}

// fill takes in all places ahead of one.
func (x *index) fill(at int) {
	for ; x.filled < at; x.filled++ {
		first, second := x.keys(x.filled)
		for i := range x.levels {
			x.levels[i].add(first, second, x.filled)
		}
	}
}

// keys tells the bytes from a place on as two numbers.
func (x *index) keys(at int) (first, second uint64) {
	return key(x.text[at:]), key(x.text[min(len(x.text), at+keyBytes):])
}

// walk goes through the places of a level from the nearest one back, for a piece of at most most bytes, and of at least the level's size. As soon as that costs more than to go through all bytes in sight, these are gone through.
func (x *index) walk(l level, at, most int) (length, distance int) {
	piece, first := x.text[at:at+most], at-min(at, x.window)
	length = l.size - 1
	steps := at - first
	place := int(l.last[l.hash(x.keys(at))]) - 1
	for ; place >= first && length < most; place = int(l.before[place]) - 1 {
		if x.text[place+length] == piece[length] {
			n := common(x.text[place:], piece)
			steps -= n
			if n > length {
				length, distance = n, at-place
			}
		}
		steps--
		if steps < 0 {
			length, distance, _ = token.Match(x.text, at, x.window, most)
			break
		}
	}
	if distance == 0 {
		return 0, 0
	}
	return length, distance
}

// add takes in the piece of a place.
func (l *level) add(first, second uint64, place int) {
	h := l.hash(first, second)
	l.before[place] = l.last[h]
	l.last[h] = int32(place + 1)
}

// hash tells where a level keeps the pieces that begin as two keys do.
func (l *level) hash(first, second uint64) uint64 {
	if l.size <= keyBytes {
		return first >> (8 * (keyBytes - l.size)) * spread >> l.shift
	}
	return (first*spread ^ second) * spread >> l.shift
}

// key tells the bytes that a text begins with as a number, bytes 0 where there are fewer.
func key(text []byte) uint64 {
	if len(text) < keyBytes {
		var filled [keyBytes]byte
		copy(filled[:], text)
		text = filled[:]
	}
	k := uint64(0)
	for _, c := range text[:keyBytes] {
		k = k<<8 | uint64(c)
	}
	return k
}

// common tells how many bytes two texts begin with that are the same.
func common(a, b []byte) int {
	n := 0
	for n < len(a) && n < len(b) && a[n] == b[n] {
		n++
	}
	return n
}
