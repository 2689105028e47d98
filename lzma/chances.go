package lzma

import "math/bits"

const (
	even   = 1024 // a chance at first
	places = 16   // y is below this
)

// Lengths of pieces, and by how many bits they are written.
const (
	leastPiece   = 2
	midPiece     = 10 // from here on by mid
	highPiece    = 18 // from here on by high
	longestPiece = 273

	lowBits  = 3
	midBits  = 3
	highBits = 8
)

// Where the chances of lengths stand behind the first of them, and how many there are.
const (
	atChoice      = 0
	atChoice2     = 1
	atLow         = 2
	atMid         = atLow + places<<lowBits
	atHigh        = atMid + places<<midBits
	lengthChances = atHigh + 1<<highBits
)

// A slot tells the highest bits of f; what it leaves open is f's rest.
const (
	slotBits   = 6
	slotTrees  = 4  // one for each of the least lengths
	openSlot   = 4  // from here on there is a rest, by near
	directSlot = 14 // from here on it is written directly, but for its lowest bits, by align
	alignBits  = 4

	openFrom   = 4   // the least f of openSlot
	directFrom = 128 // the least f of directSlot
)

// A byte is written by one of three trees: one of bytes alone, and one for either bit of another byte that it may be like.
const (
	byteBits    = 8
	byteTree    = 1 << byteBits
	byteChances = 3 * byteTree
)

// Where the chances of each kind stand.
const (
	atMatch        = 0
	atLong         = atMatch + numbers*places
	atRep          = atLong + numbers*places
	atRep0         = atRep + numbers
	atRep1         = atRep0 + numbers
	atRep2         = atRep1 + numbers
	atMatchLengths = atRep2 + numbers
	atFarLengths   = atMatchLengths + lengthChances
	atSlots        = atFarLengths + lengthChances
	atNear         = atSlots + slotTrees<<slotBits
	atAlign        = atNear + directFrom - openFrom
	atBytes        = atAlign + 1<<alignBits
)

// evenChances are all that there are with such props.
func evenChances(p Props) []int {
	l := make([]int, atBytes+byteChances<<(p.Lc+p.Lp))
	for i := range l {
		l[i] = even
	}
	return l
}

// slotOf tells the slot of f.
func slotOf(f uint32) int {
	if f < openFrom {
		return int(f)
	}
	highest := bits.Len32(f) - 1
	return 2*highest + int(f>>(highest-1)&1)
}

// leastOf tells the least f that a slot has.
func leastOf(slot int) uint32 {
	if slot < openSlot {
		return uint32(slot)
	}
	return uint32(2+slot%2) << restBits(slot)
}

// restBits tells how many bits the rest has, of a slot that leaves some open.
func restBits(slot int) int { return slot/2 - 1 }

// slotTree tells where the chances of slots stand, for matches of so many bytes.
func slotTree(length int) int {
	return atSlots + min(length-leastPiece, slotTrees-1)<<slotBits
}

// nearTree tells where the chances of a slot's rest stand. A rest needs as many of them as there are f of its slot, so that they may stand in the order of f.
func nearTree(slot int) int { return atNear + int(leastOf(slot)) - openFrom }

// byteWalk goes down the trees by which a byte is written, bit by bit.
type byteWalk struct {
	node int  // of the tree: 1, and behind it the bits so far
	like int  // the byte that this one may be like; its next bit is its eighth
	held bool // whether it is looked at: all bits so far were its
}

// next tells the other byte's next bit.
func (k *byteWalk) next() int { return k.like >> (byteBits - 1) & 1 }

// chance tells which of the byte's chances the next bit has.
func (k *byteWalk) chance() int {
	if !k.held {
		return k.node
	}
	return byteTree + byteTree*k.next() + k.node
}

// step goes on behind a bit.
func (k *byteWalk) step(bit int) {
	k.held = k.held && bit == k.next()
	k.like *= 2
	k.node = 2*k.node + bit
}

// done tells the byte whose bits all came.
func (k *byteWalk) done() byte { return byte(k.node) }
