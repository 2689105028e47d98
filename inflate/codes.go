package inflate

import (
	"hamper/api"
	"hamper/prefix"
)

const (
	blockEnd     = 256 // the symbol that ends a block
	firstLength  = 257 // symbols of lengths
	lastLength   = 285
	lastDistance = 29 // symbols of distances, from 0 on

	mostSymbols   = 286 // lengths that a block may tell of its symbols
	mostDistances = 30
	mostWord      = 15 // bits of a word of a block's own code
	mostInner     = 7  // bits of a word of the code by which lengths are told

	repeatAhead = 16 // symbols of that code that stand for several lengths
	fewNoughts  = 17
	manyNoughts = 18
)

// Order tells in which order the lengths' own lengths stand: the likeliest first, so that the last ones may be left out.
func Order() []int {
	return []int{16, 17, 18, 0, 8, 7, 9, 6, 10, 5, 11, 4, 12, 3, 13, 2, 14, 1, 15}
}

// LengthOf tells the least length of a symbol, and how many bits go with it.
func LengthOf(symbol int) (least, extra int, e api.Errno) {
	if symbol < firstLength || symbol > lastLength {
		return 0, 0, api.ErrArg
	}
	i := symbol - firstLength
	if symbol == lastLength { // the greatest length has a symbol of its own
		return 258, 0, api.OK
	}
	if i < 8 {
		return 3 + i, 0, api.OK
	}
	extra = i/4 - 1
	return 3 + (4+i%4)<<extra, extra, api.OK
}

// DistanceOf tells the least distance of a symbol, and how many bits go with it.
func DistanceOf(symbol int) (least, extra int, e api.Errno) {
	if symbol < 0 || symbol > lastDistance {
		return 0, 0, api.ErrArg
	}
	if symbol < 4 {
		return 1 + symbol, 0, api.OK
	}
	extra = symbol/2 - 1
	return 1 + (2+symbol%2)<<extra, extra, api.OK
}

// Fixed tells the lengths of the code that needs no telling.
func Fixed() []int {
	l := make([]int, 288)
	for symbol := range l {
		switch {
		case symbol < 144:
			l[symbol] = 8
		case symbol < 256:
			l[symbol] = 9
		case symbol < 280:
			l[symbol] = 7
		default:
			l[symbol] = 8
		}
	}
	return l
}

// fixedDistances tells the lengths of the fixed code's distances.
func fixedDistances() []int {
	l := make([]int, 32)
	for symbol := range l {
		l[symbol] = 5
	}
	return l
}

// codesOf makes the codes of a block's symbols and distances.
func codesOf(symbols, distances []int) (s, d *prefix.Code, e api.Errno) {
	if s, e = prefix.New(symbols, mostWord, true); e != api.OK {
		goto end
	}
	if d, e = prefix.New(distances, mostWord, true); e != api.OK {
		goto end
	}
	return s, d, api.OK
end:
	return nil, nil, e
}

// codes reads a block's own codes.
func (r *reading) codes() (s, d *prefix.Code, e api.Errno) {
	var symbols, distances, inner int
	var by *prefix.Code
	var lengths []int
	if symbols, distances, inner, e = r.counts(); e != api.OK {
		goto end
	}
	if by, e = r.innerCode(inner); e != api.OK {
		goto end
	}
	if lengths, e = r.lengths(by, symbols+distances); e != api.OK {
		goto end
	}
	if lengths[blockEnd] == 0 {
		e = api.ErrForm
		goto end
	}
	return codesOf(lengths[:symbols], lengths[symbols:])
end:
	return nil, nil, e
}

// counts reads how many lengths of symbols and of distances come, and how many lengths of the code by which those are told.
func (r *reading) counts() (symbols, distances, inner int, e api.Errno) {
	var l, d, k uint64
	if l, e = r.bits.Get(5); e != api.OK {
		goto end
	}
	if d, e = r.bits.Get(5); e != api.OK {
		goto end
	}
	if k, e = r.bits.Get(4); e != api.OK {
		goto end
	}
	symbols, distances, inner = 257+int(l), 1+int(d), 4+int(k)
	if symbols <= mostSymbols && distances <= mostDistances {
		return symbols, distances, inner, api.OK
	}
	e = api.ErrForm
end:
	return 0, 0, 0, e
}

// innerCode reads the code by which lengths are told.
func (r *reading) innerCode(count int) (*prefix.Code, api.Errno) {
	order := Order()
	l := make([]int, len(order))
	for _, symbol := range order[:count] {
		length, e := r.bits.Get(3)
		if e != api.OK {
			return nil, e
		}
		l[symbol] = int(length)
	}
	return prefix.New(l, mostInner, false)
}

// lengths reads so many lengths. Those of symbols and of distances are one list: a repeat may go from the ones into the others.
func (r *reading) lengths(by *prefix.Code, count int) ([]int, api.Errno) {
	l := make([]int, 0, count)
	for len(l) < count {
		symbol, e := by.Get(r.bits)
		if e != api.OK {
			return nil, e
		}
		length, times, e := r.repeat(symbol, l)
		if e != api.OK {
			return nil, e
		}
		if times > count-len(l) {
			return nil, api.ErrForm
		}
		for range times {
			l = append(l, length)
		}
	}
	return l, api.OK
}

// repeat tells which length a symbol stands for, behind those ahead, and how many times.
func (r *reading) repeat(symbol int, ahead []int) (length, times int, e api.Errno) {
	var more uint64
	switch symbol {
	case repeatAhead:
		more, e = r.bits.Get(2)
		if e == api.OK && len(ahead) == 0 {
			e = api.ErrForm
		}
		if e != api.OK {
			return 0, 0, e
		}
		return ahead[len(ahead)-1], 3 + int(more), api.OK
	case fewNoughts:
		more, e = r.bits.Get(3)
		return 0, 3 + int(more), e
	case manyNoughts:
		more, e = r.bits.Get(7)
		return 0, 11 + int(more), e
	}
	return symbol, 1, api.OK
}
