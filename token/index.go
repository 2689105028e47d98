package token

import (
	"bytes"
	"slices"
)

const (
	longestKey = 8       // bytes of a piece that is looked up: what a key holds
	few        = 512     // places that are sought without an index: it would cost more than it saves
	leastRoom  = 1 << 16 // bytes that an index takes behind its window, before a new one is begun
)

// level keeps where pieces of one size stood. Places are kept one greater, so that 0 is none.
type level struct {
	size   int
	last   map[uint64]int // of each piece the last place
	before []int          // of each place the one before it that has the same piece
}

// index keeps where the pieces of a text stood, as far as it was filled, in levels of rising size: where a level has the piece, those of a lesser size need not be looked at.
type index struct {
	text         []byte
	window, most int
	levels       []level
	filled       int
}

// newIndex makes an index of a text whose places from a first one on are to be sought. Pieces below least are not found by it.
func newIndex(text []byte, from, window, least, most int) *index {
	x := &index{text: text, window: window, most: most}
	if len(text)-from <= few {
		return x
	}
	for size := min(least, longestKey); size <= min(most, longestKey); size *= 2 {
		x.levels = append(x.levels, level{size: size, last: map[uint64]int{}})
	}
	return x
}

// outgrown is whether an index holds more that is out of sight than it should.
func (x *index) outgrown(at int) bool {
	return at-x.window > max(x.window, leastRoom)
}

// match tells the longest piece at a place, the nearest of several.
func (x *index) match(at int) (length, distance int) {
	if len(x.levels) == 0 {
		return seek(look(x.text, at, x.window, x.most))
	}
	x.fill(at)
	first := at - min(at, x.window)
	most := min(x.most, len(x.text)-at)
	for _, l := range slices.Backward(x.levels) {
		if place := l.stood(x.text, at); place >= first {
			return x.walk(l, place, at, most)
		}
		most = min(most, l.size-1)
	}
	return 0, 0
}

// fill takes in all places ahead of one.
func (x *index) fill(at int) {
	for ; x.filled < at; x.filled++ {
		for i := range x.levels {
			x.levels[i].add(x.text, x.filled)
		}
	}
}

// walk goes through the places of a level from a nearest one back, for a piece of at most most bytes. As soon as that costs more than to go through all bytes in sight, these are gone through.
func (x *index) walk(l level, nearest, at, most int) (length, distance int) {
	text, first := x.text, at-min(at, x.window)
	piece := text[at : at+most : at+most]
	left := at - first // steps, and bytes compared, until it costs more
	weigh := func(place int) bool {
		left--
		if text[place+length] == piece[length] {
			same := common(text[place:], piece)
			left -= same
			if same > length {
				length, distance = same, at-place
			}
		}
		return length < most && left > 0
	}
	l.each(nearest, first, weigh)
	if length < most && left <= 0 {
		return seek(look(text, at, x.window, most))
	}
	return length, distance
}

// stood tells the last place at which the piece of a place stood, below 0 if none is known.
func (l *level) stood(text []byte, at int) int {
	if len(text)-at < l.size {
		return -1
	}
	return l.last[key(text[at:at+l.size:at+l.size])] - 1
}

// add takes in the piece of the next place, if the text has so many bytes there.
func (l *level) add(text []byte, at int) {
	if len(text)-at < l.size {
		return
	}
	k := key(text[at : at+l.size : at+l.size])
	l.before = append(l.before, l.last[k])
	l.last[k] = at + 1
}

// each tells the places of a piece from the nearest one back to the first in sight, as long as it is asked to go on.
func (l *level) each(nearest, first int, tell func(place int) bool) {
	place := nearest
	for place >= first && tell(place) {
		place = l.before[place] - 1
	}
}

// key tells a piece of at most eight bytes as a number; those of one size have each their own.
func key(piece []byte) uint64 {
	k := uint64(0)
	for _, c := range piece {
		k = k<<8 | uint64(c)
	}
	return k
}

// common tells how many bytes two texts begin with that are the same.
func common(a, b []byte) int {
	n := 0
	for n < len(a) && n < len(b) && a[n] == b[n] {
		n++
	}
	return n
}

// seek tells the longest piece of a text from a place on that stands ahead of it, too, the nearest of several. It goes from the farthest place on: from the nearest one back, each place of a run might have just one byte more, and all of them would be compared again.
func seek(text []byte, at int) (length, distance int) {
	piece := text[at:]
	for place := 0; length < len(piece); place++ {
		next := bytes.Index(text[place:at+length], piece[:length+1])
		if next < 0 {
			break
		}
		place += next
		length = common(text[place:], piece)
	}
	if length == 0 {
		return 0, 0
	}
	return length, at - bytes.LastIndex(text[:at+length-1], piece[:length])
}
