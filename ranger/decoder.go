package ranger

import (
	"bytes"

	"hamper/api"
)

// Decoder reads bits by how likely they are.
type Decoder struct {
	made    bool // by NewDecoder, so that a plain Decoder{} is told from it
	chances chances
	code    uint32 // how far what is read lies behind where the range begins
	width   uint32 // the range
	rest    []byte // bytes that were not needed yet
	ended   bool   // a byte was needed, and there was none
}

// NewDecoder makes one over bytes.
func NewDecoder(b []byte, n int) (*Decoder, api.Errno) {
	if !isCount(n) {
		return nil, api.ErrArg
	}
	if len(b) < endBytes {
		return nil, api.ErrEnd
	}
	if b[0] != 0 {
		return nil, api.ErrForm
	}
	code := uint32(0)
	for i := range endBytes {
		code = code*byteTimes + uint32(b[i])
	}
	return &Decoder{made: true, chances: evenChances(n), code: code, width: wholeRange, rest: bytes.Clone(b[endBytes:])}, api.OK
}

// Bit reads a bit by a chance.
func (c *Decoder) Bit(chance int) (int, api.Errno) {
	if !c.good() {
		return 0, api.ErrNil
	}
	if !c.chances.has(chance) {
		return 0, api.ErrArg
	}
	return c.unlessEnded(c.get(chance))
}

// Direct reads a number of n bits.
func (c *Decoder) Direct(n int) (int, api.Errno) {
	if !c.good() {
		return 0, api.ErrNil
	}
	if !isDirect(n) {
		return 0, api.ErrArg
	}
	v := 0
	for range n {
		v = 2*v + c.getDirect()
	}
	return c.unlessEnded(v)
}

// Tree reads a number of n bits, the highest first.
func (c *Decoder) Tree(base, n int) (int, api.Errno) {
	return c.getTree(base, n, func(turn int) int { return n - 1 - turn })
}

// Reverse reads a number of n bits, the lowest first.
func (c *Decoder) Reverse(base, n int) (int, api.Errno) {
	return c.getTree(base, n, func(turn int) int { return turn })
}

// Done tells whether all bytes were read, and nothing is left in them.
func (c *Decoder) Done() bool {
	return c.good() && len(c.rest) == 0 && c.code == 0 && !c.ended
}

// Chances tells the chances as they are.
func (c *Decoder) Chances() []int {
	if !c.good() {
		return nil
	}
	return c.chances.told()
}

// Set makes the chances others.
func (c *Decoder) Set(l []int) api.Errno {
	if !c.good() {
		return api.ErrNil
	}
	return setEach(l, len(c.chances), c.chances.set)
}

// good is false of a decoder that NewDecoder did not give.
func (c *Decoder) good() bool { return c != nil && c.made }

// unlessEnded tells what was read, or that a byte lacked for it or ahead of it.
func (c *Decoder) unlessEnded(v int) (int, api.Errno) {
	if c.ended {
		return 0, api.ErrEnd
	}
	return v, api.OK
}

// getTree reads a number of n bits, whose places in it are told by their turns, each by the chance to which those ahead of it lead.
func (c *Decoder) getTree(base, n int, placeOf func(turn int) int) (int, api.Errno) {
	if !c.good() {
		return 0, api.ErrNil
	}
	if !c.chances.hasTree(base, n) {
		return 0, api.ErrArg
	}
	v, node := 0, 1
	for turn := range n {
		bit := c.get(base + node)
		v |= bit << placeOf(turn)
		node = 2*node + bit
	}
	return c.unlessEnded(v)
}

// get reads a bit by a chance, which learns it if no byte lacks. Behind the end it does nothing, so that whoever reads several bits need not look for it after each.
func (c *Decoder) get(chance int) int {
	if c.ended {
		return 0
	}
	bit := 0
	bound := c.chances.bound(c.width, chance)
	if c.code < bound {
		c.width = bound
	} else {
		bit = 1
		c.code -= bound
		c.width -= bound
	}
	c.widen()
	if !c.ended {
		c.chances.learn(chance, bit)
	}
	return bit
}

// getDirect reads a bit that is as likely as not; behind the end it does nothing.
func (c *Decoder) getDirect() int {
	if c.ended {
		return 0
	}
	bit := 0
	c.width /= 2
	if c.code >= c.width {
		bit = 1
		c.code -= c.width
	}
	c.widen()
	return bit
}

// widen makes a range that became too small wider, for which bytes are taken in.
func (c *Decoder) widen() {
	for c.width < leastRange {
		if len(c.rest) == 0 {
			c.ended = true
			return
		}
		c.width *= byteTimes
		c.code = c.code*byteTimes + uint32(c.rest[0])
		c.rest = c.rest[1:]
	}
}
