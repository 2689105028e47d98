package runs

import "hamper/api"

const (
	mostUsed    = 256 // bytes of a text that are unlike
	mostSymbols = 20  // symbols of a run of places 0
)

// Symbols tells places as symbols: runs of 0 shorter, and an end.
func Symbols(places []int, n int) ([]int, api.Errno) {
	if !mayBeUsed(n) || !within(places, n) {
		return nil, api.ErrArg
	}
	var symbols []int
	noughts := 0
	for _, place := range places {
		if place == 0 {
			noughts++
			continue
		}
		symbols = append(appendNoughts(symbols, noughts), place+1)
		noughts = 0
	}
	return append(appendNoughts(symbols, noughts), n+1), api.OK
}

// mayBeUsed is whether a text may have so many bytes that are unlike.
func mayBeUsed(n int) bool { return n >= 1 && n <= mostUsed }

// appendNoughts writes a run of k places 0. What is left behind a symbol is worth half as much at the next place, so an odd k needs the symbol 0, an even one the symbol 1.
func appendNoughts(symbols []int, k int) []int {
	for k > 0 {
		symbol := 1 - k%2
		symbols = append(symbols, symbol)
		k = (k - 1 - symbol) / 2
	}
	return symbols
}

// worth tells of how many places 0 a run of symbols is.
func worth(run []int) int {
	k := 0
	for i, symbol := range run {
		k += (symbol + 1) << i
	}
	return k
}

// Places tells the places of symbols; at most so many.
func Places(symbols []int, n, most int) ([]int, api.Errno) {
	if !mayBeUsed(n) || most < 0 {
		return nil, api.ErrArg
	}
	return unrolled(most, func(tell teller[int]) api.Errno { return readSymbols(symbols, n, tell) })
}

// readSymbols tells the places of symbols, run by run, up to the end or the first error. A run is told ahead of the symbol behind it, as that it is too many is told at its end, whatever comes then.
func readSymbols(symbols []int, n int, tell teller[int]) api.Errno {
	at := 0
runs:
	for {
		run, e := runOf(symbols[at:])
		if e != api.OK {
			return e
		}
		if e := tell(0, worth(run)); e != api.OK {
			return e
		}
		at += len(run)
		switch {
		case at == len(symbols):
			return api.ErrEnd
		case symbols[at] < 0 || symbols[at] > n+1:
			return api.ErrForm
		case symbols[at] == n+1:
			break runs
		}
		if e := tell(symbols[at]-1, 1); e != api.OK {
			return e
		}
		at++
	}
	if at+1 < len(symbols) {
		return api.ErrTail
	}
	return api.OK
}

// runOf tells the run of symbols 0 and 1 with which symbols begin; it may be empty.
func runOf(symbols []int) ([]int, api.Errno) {
	n := 0
	for n < len(symbols) && (symbols[n] == 0 || symbols[n] == 1) {
		if n == mostSymbols {
			return nil, api.ErrForm
		}
		n++
	}
	return symbols[:n:n], api.OK
}
