package runs

import "hamper/api"

const (
	mostUsed    = 256 // bytes of a text that are unlike
	mostSymbols = 20  // symbols of a run of places 0
)

// Symbols tells places as symbols: runs of 0 shorter, and an end.
func Symbols(places []int, n int) ([]int, api.Errno) {
	if !mayBeUsed(n) || !within(places, n) {
		return nil, api.ErrArg
	}
	var symbols []int
	noughts := 0
	for _, place := range places {
		if place == 0 {
			noughts++
			continue
		}
		symbols = append(appendNoughts(symbols, noughts), place+1)
		noughts = 0
	}
	return append(appendNoughts(symbols, noughts), n+1), api.OK
}

// mayBeUsed is whether a text may have so many bytes that are unlike.
func mayBeUsed(n int) bool { return n >= 1 && n <= mostUsed }

// appendNoughts writes a run of k places 0. What is left behind a symbol is worth half as much at the next place, so an odd k needs the symbol 0, an even one the symbol 1.
func appendNoughts(symbols []int, k int) []int {
	for k > 0 {
		symbol := 1 - k%2
		symbols = append(symbols, symbol)
		k = (k - 1 - symbol) / 2
	}
	return symbols
}

// worth tells of how many places 0 a run of symbols is.
func worth(run []int) int {
	k := 0
	for i, symbol := range run {
		k += (symbol + 1) << i
	}
	return k
}

// Places tells the places of symbols; at most so many.
func Places(symbols []int, n, most int) ([]int, api.Errno) {
	if !mayBeUsed(n) || most < 0 {
		return nil, api.ErrArg
	}
	return unrolled(most, func(tell teller[int]) api.Errno { return readSymbols(symbols, n, tell) })
}

// readSymbols tells the places of symbols, run by run, up to the end or the first error. That a run has ended is seen by the symbol behind it, so what is wrong with that one comes first, as it is named first.
func readSymbols(symbols []int, n int, tell teller[int]) api.Errno {
	first := 0 // where the run begins that is being read
runs:
	for at, symbol := range symbols {
		switch {
		case symbol < 0 || symbol > n+1:
			return api.ErrForm
		case symbol <= 1 && at-first == mostSymbols:
			return api.ErrForm
		case symbol <= 1:
			continue runs
		case symbol == n+1 && at+1 < len(symbols):
			return api.ErrTail
		}
		if e := tell(0, worth(symbols[first:at:at])); e != api.OK {
			return e
		}
		if symbol == n+1 {
			return api.OK
		}
		if e := tell(symbol-1, 1); e != api.OK {
			return e
		}
		first = at + 1
	}
	return api.ErrEnd
}
