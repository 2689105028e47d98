package ranger

import "hamper/api"

const (
	carryAt  = 1 << 32              // from here on low has a carry
	openFrom = carryAt - leastRange // from here on, and below a carry, low's highest byte is ff
	lowMask  = leastRange - 1       // the bits of low that stay as a byte is shifted out
)

// Encoder writes bits by how likely they are.
type Encoder struct {
	made    bool // by New, so that a plain Encoder{} is told from it
	chances chances
	low     uint64 // where the range begins; its 33rd bit is a carry into the bytes that are waiting
	width   uint32 // the range
	kept    byte   // the first of the bytes that are waiting; those behind it are ff
	waiting int
	written []byte
}

// New makes one with n chances, all of them even.
func New(n int) (*Encoder, api.Errno) {
	if !isCount(n) {
		return nil, api.ErrArg
	}
	return &Encoder{made: true, chances: evenChances(n), width: wholeRange, waiting: 1}, api.OK
}

// Bit writes a bit by a chance.
func (c *Encoder) Bit(chance, bit int) api.Errno {
	if !c.good() {
		return api.ErrNil
	}
	if !c.chances.has(chance) || bit != 0 && bit != 1 {
		return api.ErrArg
	}
	c.put(chance, bit)
	return api.OK
}

// Direct writes the lowest n bits of a number, each as likely as not.
func (c *Encoder) Direct(v, n int) api.Errno {
	if !c.good() {
		return api.ErrNil
	}
	if !isDirect(n) || !hasBits(v, n) {
		return api.ErrArg
	}
	bitOf := highFirst(v, n)
	for turn := range n {
		c.putDirect(bitOf(turn))
	}
	return api.OK
}

// Tree writes a number of n bits, the highest first, by a tree of chances.
func (c *Encoder) Tree(base, v, n int) api.Errno {
	return c.putTree(base, v, n, highFirst(v, n))
}

// Reverse writes a number of n bits, the lowest first, by a tree of chances.
func (c *Encoder) Reverse(base, v, n int) api.Errno {
	return c.putTree(base, v, n, lowFirst(v))
}

// Bytes tells all bytes, as if this were the end.
func (c *Encoder) Bytes() []byte {
	if !c.good() {
		return nil
	}
	end := *c
	end.written = make([]byte, len(c.written), len(c.written)+c.waiting+endBytes)
	copy(end.written, c.written)
	for range endBytes {
		end.shift()
	}
	return end.written
}

// Chances tells the chances as they are.
func (c *Encoder) Chances() []int {
	if !c.good() {
		return nil
	}
	return c.chances.told()
}

// Set makes the chances others.
func (c *Encoder) Set(l []int) api.Errno {
	if !c.good() {
		return api.ErrNil
	}
	return setEach(l, len(c.chances), c.chances.set)
}

// good is false of an encoder that New did not give.
func (c *Encoder) good() bool { return c != nil && c.made }

// hasBits is whether a number has no more than n bits.
func hasBits(v, n int) bool { return v >= 0 && v>>n == 0 }

// highFirst tells a number's n bits by their turns, the highest first.
func highFirst(v, n int) func(turn int) int {
	return func(turn int) int { return v >> (n - 1 - turn) & 1 }
}

// lowFirst tells a number's bits by their turns, the lowest first.
func lowFirst(v int) func(turn int) int {
	return func(turn int) int { return v >> turn & 1 }
}

// putTree writes a number of n bits, which are told by their turns, each by the chance to which those ahead of it lead.
func (c *Encoder) putTree(base, v, n int, bitOf func(turn int) int) api.Errno {
	if !c.good() {
		return api.ErrNil
	}
	if !c.chances.hasTree(base, n) || !hasBits(v, n) {
		return api.ErrArg
	}
	node := 1
	for turn := range n {
		bit := bitOf(turn)
		c.put(base+node, bit)
		node = 2*node + bit
	}
	return api.OK
}

// put writes a bit by a chance, which learns it.
func (c *Encoder) put(chance, bit int) {
	bound := c.chances.bound(c.width, chance)
	if bit == 0 {
		c.width = bound
	} else {
		c.low += uint64(bound)
		c.width -= bound
	}
	c.chances.learn(chance, bit)
	c.widen()
}

// putDirect writes a bit that is as likely as not.
func (c *Encoder) putDirect(bit int) {
	c.width /= 2
	if bit == 1 {
		c.low += uint64(c.width)
	}
	c.widen()
}

// widen makes a range that became too small wider, for which bytes are shifted out.
func (c *Encoder) widen() {
	for c.width < leastRange {
		c.width *= byteTimes
		c.shift()
	}
}

// shift takes the highest byte off low. If it is ff, it waits with the others, as a carry that comes later would go through it into them; else no carry comes to them any more, so that they are written, and it is the one kept.
func (c *Encoder) shift() {
	if c.low < openFrom || c.low >= carryAt {
		carry := byte(c.low / carryAt)
		c.written = append(c.written, c.kept+carry)
		for range c.waiting - 1 {
			c.written = append(c.written, 0xff+carry)
		}
		c.kept = byte(c.low / leastRange)
		c.waiting = 0
	}
	c.waiting++
	c.low = (c.low & lowMask) * byteTimes
}
