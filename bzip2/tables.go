package bzip2

import (
	"hamper/api"
	"hamper/bits"
	"hamper/prefix"
)

const (
	mostTables    = 6
	shortest      = 1 // bits of a word in blocks that are read
	longestLooked = 20
)

// tables are the codes by which a block's symbols are written; behind those that there are stand none.
type tables [mostTables]*prefix.Code

// readSymbols reads the tables, and by them the symbols, of so many kinds, up to the last kind, which is the end.
func readSymbols(r *bits.Reader, kinds int) ([]int, api.Errno) {
	count, e := readCount(r)
	if e != api.OK {
		return nil, e
	}
	selectors, e := readSelectors(r, count)
	if e != api.OK {
		return nil, e
	}
	codes, e := readTables(r, count, kinds)
	if e != api.OK {
		return nil, e
	}
	var symbols []int
	for _, selector := range selectors {
		for range perSelector {
			symbol, e := codes[selector].Get(r)
			if e != api.OK {
				return nil, e
			}
			symbols = append(symbols, symbol)
			if symbol == kinds-1 {
				return symbols, api.OK
			}
		}
	}
	return nil, api.ErrForm
}

// readCount reads how many tables there are.
func readCount(r *bits.Reader) (int, api.Errno) {
	count, e := r.Get(tablesBits)
	if e != api.OK {
		return 0, e
	}
	if count < leastTables || count > mostTables {
		return 0, api.ErrForm
	}
	return int(count), api.OK
}

// readSelectors reads which of so many tables each piece of the symbols has.
func readSelectors(r *bits.Reader, count int) ([]int, api.Errno) {
	n, e := r.Get(selectorsBits)
	if e != api.OK {
		return nil, e
	}
	if n == 0 {
		return nil, api.ErrForm
	}
	list := [mostTables]int{0, 1, 2, 3, 4, 5} // the tables by how lately they were chosen
	selectors := make([]int, n)
	for i := range selectors {
		place, e := readPlace(r, count)
		if e != api.OK {
			return nil, e
		}
		chosen := list[place]
		copy(list[1:place+1], list[:place])
		list[0] = chosen
		selectors[i] = chosen
	}
	return selectors, api.OK
}

// readPlace reads how many tables stand ahead of the chosen one: so many bits are set, and the next is not.
func readPlace(r *bits.Reader, count int) (int, api.Errno) {
	for place := range count {
		more, e := r.Get(1)
		if e != api.OK {
			return 0, e
		}
		if more == 0 {
			return place, api.OK
		}
	}
	return 0, api.ErrForm
}

// readTables reads so many tables. No code is made until the lengths of all of them are read: what lacks in a later table is told ahead of an earlier one's lengths that are no code.
func readTables(r *bits.Reader, count, kinds int) (tables, api.Errno) {
	var lengths [mostTables][]int
	for i := range count {
		table, e := readLengths(r, kinds)
		if e != api.OK {
			return tables{}, e
		}
		lengths[i] = table
	}
	var codes tables
	for i := range count {
		code, e := prefix.New(lengths[i], longestLooked, false)
		if e != api.OK {
			return tables{}, e
		}
		codes[i] = code
	}
	return codes, api.OK
}

// readLengths reads the lengths of so many symbols' words.
func readLengths(r *bits.Reader, kinds int) ([]int, api.Errno) {
	first, e := r.Get(lengthBits)
	if e != api.OK {
		return nil, e
	}
	now := int(first)
	lengths := make([]int, kinds)
	for i := range lengths {
		if now, e = readLength(r, now); e != api.OK {
			return nil, e
		}
		lengths[i] = now
	}
	return lengths, api.OK
}

// readLength reads the steps from one length to the next. Each length on the way must be one that a word may have, also where the next step would leave it again.
func readLength(r *bits.Reader, now int) (int, api.Errno) {
	for {
		if now < shortest || now > longestLooked {
			return 0, api.ErrForm
		}
		more, e := r.Get(1)
		if e != api.OK {
			return 0, e
		}
		if more == 0 {
			return now, api.OK
		}
		less, e := r.Get(1)
		if e != api.OK {
			return 0, e
		}
		now += 1 - 2*int(less)
	}
}
