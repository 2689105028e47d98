package deflate

import (
	"slices"
	"sort"

	"hamper/api"
	"hamper/bits"
	"hamper/inflate"
	"hamper/prefix"
)

const (
	window       = 32768 // the greatest distance
	leastLength  = 3     // of a piece
	mostLength   = 258
	blockEnd     = 256 // the symbol that ends a block
	firstLength  = 257 // symbols of lengths
	lastLength   = 285
	lastDistance = 29 // symbols of distances, from 0 on
	mostWord     = 15 // bits of a symbol's word
)

// Symbol tells the symbol of a length, and what its bits are.
func Symbol(length int) (symbol, more int, e api.Errno) {
	if length < leastLength || length > mostLength {
		return 0, 0, api.ErrArg
	}
	x := lengthWord(length)
	return x.symbol, x.more, api.OK
}

// Far tells the symbol of a distance, and what its bits are.
func Far(distance int) (symbol, more int, e api.Errno) {
	if distance < 1 || distance > window {
		return 0, 0, api.ErrArg
	}
	x := distanceWord(distance)
	return x.symbol, x.more, api.OK
}

// word is a symbol that is to be written, and the number in the bits that go with it.
type word struct {
	symbol, more, extra int
}

// lengthWord is Symbol of a length that may be.
func lengthWord(length int) word { return find(length, firstLength, lastLength, inflate.LengthOf) }

// distanceWord is Far of a distance that may be.
func distanceWord(distance int) word { return find(distance, 0, lastDistance, inflate.DistanceOf) }

// find tells the last one of some symbols whose least is not above a value, and by how much the value is above that. The leasts rise from symbol to symbol, so it need not look at all of them.
func find(value, first, last int, look func(symbol int) (least, extra int, e api.Errno)) word {
	above := sort.Search(last-first+1, func(i int) bool {
		least, _, _ := look(first + i)
		return least > value
	})
	symbol := first + above - 1
	least, extra, _ := look(symbol)
	return word{symbol, value - least, extra}
}

// weigh tells how many bits a word has by a code.
func (x word) weigh(by *prefix.Code) int {
	_, length, _ := by.Word(x.symbol)
	return length + x.extra
}

// put writes a word by a code.
func (x word) put(w *bits.Writer, by *prefix.Code) {
	by.Put(w, x.symbol)
	w.Put(uint64(x.more), x.extra)
}

// eachWord tells the words of tokens and of the block's end, in their order: those of distances to far, the others to near.
func eachWord(tokens []api.Token, near, far func(x word)) {
	for _, t := range tokens {
		if t.Length == 0 {
			near(word{symbol: int(t.Byte)})
			continue
		}
		near(lengthWord(t.Length))
		far(distanceWord(t.Distance))
	}
	near(word{symbol: blockEnd})
}

// codes are the ones by which a block's tokens are written.
type codes struct {
	symbols, distances *prefix.Code
}

// newCodes makes the codes of words so long, which are a code's: so there is no error.
func newCodes(symbols, distances []int) (c codes) {
	c.symbols, _ = prefix.New(symbols, mostWord, true)
	c.distances, _ = prefix.New(distances, mostWord, true)
	return c
}

// fixedCodes makes the codes that need no telling.
func fixedCodes() codes { return newCodes(inflate.Fixed(), slices.Repeat([]int{5}, 32)) }

// weigh tells how many bits tokens and the block's end have.
func (c codes) weigh(tokens []api.Token) int {
	sum := 0
	eachWord(tokens, func(x word) { sum += x.weigh(c.symbols) }, func(x word) { sum += x.weigh(c.distances) })
	return sum
}

// put writes tokens and the block's end.
func (c codes) put(w *bits.Writer, tokens []api.Token) {
	eachWord(tokens, func(x word) { x.put(w, c.symbols) }, func(x word) { x.put(w, c.distances) })
}
