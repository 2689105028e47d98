package lzma2

import (
	"slices"

	"hamper/api"
	"hamper/lzma"
	"hamper/number"
)

const (
	madeWindow  = 1 << 23
	leastPacked = 5 // bytes that Pack tells, whatever it packs
)

// madeProps are those of all chunks that are made.
var madeProps = lzma.Props{Lc: 3, Lp: 0, Pb: 2}

// Make tells the chunks of a text, each of block bytes.
func Make(b []byte, block int) ([]byte, api.Errno) {
	if block < 1 || block > mostCopied {
		return nil, api.ErrArg
	}
	if len(b) > api.MaxBytes {
		return nil, api.ErrBig
	}
	state, _ := lzma.New(madeWindow) // it is one that may be
	var out []byte
	for piece := range slices.Chunk(b, block) {
		out = putChunk(out, state, piece)
	}
	return append(out, endKind), api.OK
}

// putChunk puts a piece of a text behind the chunks so far: packed, if that is shorter.
func putChunk(out []byte, s *lzma.State, piece []byte) []byte {
	copied, packed := byte(laterCopy), byte(propsKind)
	if len(out) == 0 {
		copied, packed = freshCopy, freshKind
	}
	body, shorter := pack(s, piece)
	if !shorter {
		out = putHead(out, copied, len(piece))
		return append(out, piece...)
	}
	props, _ := madeProps.Byte() // they may be
	out = append(putHead(out, packed, len(piece), len(body)), props)
	return append(out, body...)
}

// putHead puts a chunk's kind and its numbers behind the chunks so far. No piece has so many bytes that the kind would tell some of them.
func putHead(out []byte, kind byte, numbers ...int) []byte {
	head := []byte{kind}
	for _, n := range numbers {
		head, _ = number.PutHigh(head, uint64(n-1), numberBytes)
	}
	return append(out, head...)
}

// pack tells a piece packed, and whether it is shorter by that. Where it is not, its bytes come to the state all the same, as they do where chunks are read.
func pack(s *lzma.State, piece []byte) (packed []byte, shorter bool) {
	if len(piece) <= leastPacked { // no piece behind it is longer, so none will be sought in it
		return nil, false
	}
	s.Reset(madeProps)
	packed, _ = s.Pack(piece)
	return packed, len(packed) < len(piece)
}
