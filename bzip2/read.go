package bzip2

import (
	"hamper/api"
	"hamper/bits"
	"hamper/runs"
	"hamper/suffix"
	"hamper/sums"
)

// Read tells the text of packed bytes; at most so many bytes come out.
func Read(b []byte, most int) ([]byte, api.Errno) {
	if most < 0 || most > api.MaxBytes {
		return nil, api.ErrArg
	}
	r := bits.NewReader(b, true)
	var text []byte
streams:
	for first := true; first || r.Left() > 0; first = false { // there must be one, even in no bytes
		level, e := readLevel(r)
		if e != api.OK {
			return nil, e
		}
		var blocks []uint32
		for {
			atBlock, e := readMark(r)
			if e != api.OK {
				return nil, e
			}
			if !atBlock {
				if e := readEnd(r, blocks); e != api.OK {
					return nil, e
				}
				continue streams
			}
			piece, sum, e := readBlock(r, level, most-len(text))
			if e != api.OK {
				return nil, e
			}
			text = append(text, piece...)
			blocks = append(blocks, sum)
		}
	}
	return text, api.OK
}

// readLevel reads what a stream begins with, and tells its level.
func readLevel(r *bits.Reader) (int, api.Errno) {
	b, e := r.Bytes(len(magic))
	if e != api.OK {
		return 0, e
	}
	if string(b) != magic {
		return 0, api.ErrForm
	}
	b, e = r.Bytes(1)
	if e != api.OK {
		return 0, e
	}
	level := int(b[0]) - '0'
	if !isLevel(level) {
		return 0, api.ErrKind
	}
	return level, api.OK
}

// readMark is whether a block begins; if none does, the stream ends.
func readMark(r *bits.Reader) (bool, api.Errno) {
	mark, e := r.Get(markBits)
	if e != api.OK {
		return false, e
	}
	if mark != blockMark && mark != endMark {
		return false, api.ErrForm
	}
	return mark == blockMark, api.OK
}

// readEnd reads a stream's sum, and goes on to where another one may begin.
func readEnd(r *bits.Reader, blocks []uint32) api.Errno {
	sum, e := r.Get(sumBits)
	if e != api.OK {
		return e
	}
	if uint32(sum) != Sum(blocks) {
		return api.ErrSum
	}
	return r.Align()
}

// readBlock reads a block behind its mark, and tells its text, of at most so many bytes, and its sum.
func readBlock(r *bits.Reader, level, most int) ([]byte, uint32, api.Errno) {
	sum, e := r.Get(sumBits)
	if e != api.OK {
		return nil, 0, e
	}
	row, e := readRow(r)
	if e != api.OK {
		return nil, 0, e
	}
	used, e := readUsed(r)
	if e != api.OK {
		return nil, 0, e
	}
	symbols, e := readSymbols(r, len(used)+moreSymbols)
	if e != api.OK {
		return nil, 0, e
	}
	packed, e := turnBack(symbols, used, row, level)
	if e != api.OK {
		return nil, 0, e
	}
	text, e := runs.Unpack(packed, most)
	if e != api.OK {
		return nil, 0, e
	}
	if sums.CrcHigh(0, text) != uint32(sum) {
		return nil, 0, api.ErrSum
	}
	return text, uint32(sum), api.OK
}

// readRow reads the bit that no block has set any more, and the row.
func readRow(r *bits.Reader) (int, api.Errno) {
	mixed, e := r.Get(1)
	if e != api.OK {
		return 0, e
	}
	if mixed != 0 {
		return 0, api.ErrKind
	}
	row, e := r.Get(rowBits)
	return int(row), e
}

// readUsed reads which bytes come, rising.
func readUsed(r *bits.Reader) ([]byte, api.Errno) {
	groups, e := readGroup(r)
	if e != api.OK {
		return nil, e
	}
	var used []byte
	for _, group := range groups {
		members, e := readGroup(r)
		if e != api.OK {
			return nil, e
		}
		for _, member := range members {
			used = append(used, group*groupBits+member)
		}
	}
	if len(used) == 0 {
		return nil, api.ErrForm
	}
	return used, api.OK
}

// readGroup reads bits, and tells which of them are set, counted from the highest on.
func readGroup(r *bits.Reader) ([]byte, api.Errno) {
	var set []byte
	v, e := r.Get(groupBits)
	for i := range groupBits {
		if v>>(groupBits-1-i)&1 == 1 {
			set = append(set, byte(i))
		}
	}
	return set, e
}

// turnBack tells the text, its runs still written shorter, of a block's symbols.
func turnBack(symbols []int, used []byte, row, level int) ([]byte, api.Errno) {
	places, e := runs.Places(symbols, len(used), level*perLevel)
	if e != api.OK {
		return nil, e
	}
	column, e := runs.Unfront(used, places)
	if e != api.OK {
		return nil, e
	}
	if row >= len(column) {
		return nil, api.ErrForm
	}
	return suffix.Back(column, row)
}
