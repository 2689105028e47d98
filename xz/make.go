package xz

import (
	"slices"

	"hamper/lzma2"
)

const (
	mostBlock = 1 << 20 // bytes of a text that a block may have
	chunk     = 1 << 16 // bytes of it in each chunk

	// madeHeader is what all blocks that are made begin with, but for its sum: how long it is in units, less 1; no flags; the filter, and its byte, which is that of the window by which chunks are made; bytes 0.
	madeHeader = "\x02\x00\x21\x01\x16\x00\x00\x00"
)

// makeStream tells the stream of a text, of not more blocks than an index can have.
func makeStream(b []byte, block, check int) []byte {
	flags := flagsOf(check)
	out := slices.Concat([]byte(magic), flags, sumOf(flags))
	var l []Record
	for piece := range slices.Chunk(b, block) {
		made, r := makeBlock(piece, check)
		out = append(out, made...)
		l = append(l, r)
	}
	index, _ := Index(l) // what is made of such texts may be
	out = append(out, index...)
	return append(out, footOf(len(index), check)...)
}

// makeBlock tells the block of a piece of a text, and its record.
func makeBlock(piece []byte, check int) ([]byte, Record) {
	packed, _ := lzma2.Make(piece, chunk)
	b := slices.Concat([]byte(madeHeader), sumOf([]byte(madeHeader)), packed)
	sum := checkOf(check, piece)
	r := Record{Size: len(b) + len(sum), Text: len(piece)}
	return append(filled(b), sum...), r
}
