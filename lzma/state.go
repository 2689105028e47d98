package lzma

import "bytes"

const (
	farOnes = 4
	noFar   = 1<<32 - 1 // f of a match that is none: others mark the end of a text by it
)

// What Z is behind a piece that stood ahead: the first number where a byte came ahead of it, the later one where such a piece did. From firstMatch on, the last one that came was no byte.
const (
	firstMatch = 7
	laterMatch = 10
	firstFar   = 8
	laterFar   = 11
	firstOne   = 9
	laterOne   = 11

	numbers = 12 // that Z may be
)

// State is what was packed or unpacked so far, and what was learnt of it. A reading or writing goes on with a copy, which takes its place if nothing fails; so none of them changes chances, or bytes of the text, that a state has.
type State struct {
	window  int // 0 of a state that New did not give
	props   Props
	chances []int // none as long as there are no props
	far     [farOnes]uint32
	z       int
	text    []byte
	place   int
}

// good is false of a state that New did not give.
func (s *State) good() bool { return s != nil && s.window > 0 }

// hasProps is whether there are props yet.
func (s *State) hasProps() bool { return len(s.chances) > 0 }

// come makes the text a longer one, by bytes that came.
func (s *State) come(longer []byte) {
	s.place += len(longer) - len(s.text)
	s.text = longer
}

// cut takes off the text what is out of sight. That is done at the end of a call: within it, all bytes that came are still asked for. If more is out of sight than in it, the text gets memory of its own; else it does as it grows.
func (s *State) cut() {
	over := max(0, len(s.text)-s.window)
	s.text = s.text[over:]
	if over > len(s.text) {
		s.text = bytes.Clone(s.text)
	}
}

// sees is whether the text has a byte f + 1 back.
func (s *State) sees(f uint32) bool {
	return uint64(f) < uint64(min(len(s.text), s.window))
}

// back tells the byte f + 1 back, 0 if the text has not so many.
func (s *State) back(f uint32) byte {
	if !s.sees(f) {
		return 0
	}
	return s.text[len(s.text)-1-int(f)]
}

// y tells the place as chances know it.
func (s *State) y() int { return s.place % (1 << s.props.Pb) }

// matchChance tells by which chance a piece says whether it is a byte.
func (s *State) matchChance() int { return atMatch + s.z*places + s.y() }

// longChance tells by which chance a far one of F0 says whether it has more than one byte.
func (s *State) longChance() int { return atLong + s.z*places + s.y() }

// bytePlace tells where the chances of the next byte stand.
func (s *State) bytePlace() int {
	byPlace := s.place % (1 << s.props.Lp)
	byAhead := int(s.back(0)) >> (byteBits - s.props.Lc)
	return atBytes + byteChances*(byPlace<<s.props.Lc+byAhead)
}

// byteWalk begins the walk of the next byte. Behind a piece that stood ahead, the byte that would have made it longer is looked at.
func (s *State) byteWalk() byteWalk {
	return byteWalk{node: 1, like: int(s.back(s.far[0])), held: s.z >= firstMatch}
}

// lowTree and midTree tell where the chances of short and middle lengths stand, behind the first chance of lengths.
func (s *State) lowTree() int { return atLow + s.y()<<lowBits }
func (s *State) midTree() int { return atMid + s.y()<<midBits }

// afterByte makes Z what it is behind a byte: by and by, what came ahead of bytes is forgotten.
func (s *State) afterByte() {
	switch {
	case s.z < 4:
		s.z = 0
	case s.z < laterMatch:
		s.z -= 3
	default:
		s.z -= 6
	}
}

// afterMatch makes F and Z what they are behind a match.
func (s *State) afterMatch(f uint32) {
	copy(s.far[1:], s.far[:])
	s.far[0] = f
	s.become(firstMatch, laterMatch)
}

// afterFar makes F and Z what they are behind a far one.
func (s *State) afterFar(j int) {
	f := s.far[j]
	copy(s.far[1:], s.far[:j])
	s.far[0] = f
	s.become(firstFar, laterFar)
}

// afterOne makes Z what it is behind one byte of F0.
func (s *State) afterOne() { s.become(firstOne, laterOne) }

// become makes Z the first number behind a byte, the later one behind another piece.
func (s *State) become(first, later int) {
	if s.z < firstMatch {
		s.z = first
	} else {
		s.z = later
	}
}
