package bzip2

import (
	"hamper/api"
	"hamper/bits"
	"hamper/limit"
	"hamper/prefix"
	"hamper/runs"
	"hamper/suffix"
	"hamper/sums"
)

// longestMade are the bits of a word, at most, in blocks that are made.
const longestMade = 17

// putter writes a number of so many bits. It is a writer's method that is handed on to all that write a part, so none of them can do more with the writer; as each number has no more bits than are named with it, there is no error.
type putter func(v uint64, n int) api.Errno

// Make tells the packed bytes of a text, of a level from 1 to 9.
func Make(b []byte, level int) ([]byte, api.Errno) {
	pieces, e := Blocks(b, level)
	if e != api.OK {
		return nil, e
	}
	w := bits.New(true)
	w.PutBytes([]byte(magic))
	w.PutBytes([]byte{'0' + byte(level)})
	var blocks []uint32
	for _, piece := range pieces {
		sum := sums.CrcHigh(0, piece)
		putBlock(w.Put, piece, sum)
		blocks = append(blocks, sum)
	}
	w.Put(endMark, markBits)
	w.Put(uint64(Sum(blocks)), sumBits)
	return w.Bytes(), api.OK
}

// putBlock writes a piece of a text as a block.
func putBlock(put putter, piece []byte, sum uint32) {
	column, row, _ := suffix.Turn(runs.Pack(piece)) // no block's room is more than Turn takes
	used, places := runs.Front(column)
	symbols, _ := runs.Symbols(places, len(used)) // a piece has a byte, so these are places that may be
	put(blockMark, markBits)
	put(uint64(sum), sumBits)
	put(0, 1)
	put(uint64(row), rowBits)
	putUsed(put, used)
	putSymbols(put, symbols, len(used)+moreSymbols)
}

// putUsed writes which bytes come: first which groups of them, then which of each group that comes.
func putUsed(put putter, used []byte) {
	var groups [groupBits]uint64
	come := uint64(0)
	for _, c := range used {
		group, member := c/groupBits, c%groupBits
		groups[group] |= 1 << (groupBits - 1 - member)
		come |= 1 << (groupBits - 1 - group)
	}
	put(come, groupBits)
	for _, group := range groups {
		if group != 0 {
			put(group, groupBits)
		}
	}
}

// putSymbols writes the tables and the symbols, of so many kinds. A block must have two tables at least, so that of all symbols stands there twice, and each selector chooses the first one.
func putSymbols(put putter, symbols []int, kinds int) {
	lengths := bestLengths(symbols, kinds)
	tables := [leastTables][]int{lengths, lengths}
	put(uint64(len(tables)), tablesBits)
	selectors := (len(symbols) + perSelector - 1) / perSelector
	put(uint64(selectors), selectorsBits)
	for range selectors {
		put(0, 1)
	}
	for _, table := range tables {
		putLengths(put, table)
	}
	code, _ := prefix.New(lengths, longestMade, false) // of three symbols or more the best lengths are a full code's
	for _, symbol := range symbols {
		word, length, _ := code.Word(symbol)
		put(uint64(word), length)
	}
}

// bestLengths tells the lengths of the symbols' words. Each symbol counts once more than it comes, as a table has no way to say that one has no word.
func bestLengths(symbols []int, kinds int) []int {
	often := make([]int, kinds)
	for i := range often {
		often[i] = 1
	}
	for _, symbol := range symbols {
		often[symbol]++
	}
	lengths, _ := limit.Lengths(often, longestMade) // there are fewer kinds than words of so many bits
	return lengths
}

// putLengths writes a table: its first length, and by which steps each symbol's length is got from the one ahead.
func putLengths(put putter, lengths []int) {
	now := lengths[0]
	put(uint64(now), lengthBits)
	for _, length := range lengths {
		for ; now < length; now++ {
			put(0b10, 2)
		}
		for ; now > length; now-- {
			put(0b11, 2)
		}
		put(0, 1)
	}
}
