package runs_test

import (
	"bytes"
	"slices"
	"strings"

	"hamper/api"
)

// The model tells each answer by the document's words alone, in other ways than the program: texts are cut whole, lists are laid anew, and what is wrong is sought by its place.

const mostRun = 259

// runsByWords cuts a text into runs of like bytes, from the left, each as long as it can be.
func runsByWords(b []byte) [][]byte {
	var l [][]byte
	for _, c := range b {
		last := len(l) - 1
		if last < 0 || l[last][0] != c || len(l[last]) == mostRun {
			l = append(l, []byte{c})
			continue
		}
		l[last] = append(l[last], c)
	}
	return l
}

func packByWords(b []byte) []byte {
	var packed []byte
	for _, run := range runsByWords(b) {
		if len(run) >= 4 {
			run = []byte{run[0], run[0], run[0], run[0], byte(len(run) - 4)}
		}
		packed = append(packed, run...)
	}
	return packed
}

// isNumber is whether a byte is a number: it stands behind four like ones that came since the last number.
func isNumber(b []byte, since, at int) bool {
	return at-since >= 4 && bytes.Equal(b[at-4:at], bytes.Repeat(b[at-1:at], 4))
}

func unpackByWords(b []byte, most int) ([]byte, api.Errno) {
	if most < 0 {
		return nil, api.ErrArg
	}
	var text []byte
	since := 0
	for at, c := range b {
		come := []byte{c}
		if isNumber(b, since, at) {
			come = bytes.Repeat(b[at-1:at], int(c))
			since = at + 1
		}
		if text = append(text, come...); len(text) > most {
			return nil, api.ErrBig
		}
	}
	if isNumber(b, since, len(b)) {
		return nil, api.ErrEnd
	}
	return text, api.OK
}

func frontByWords(b []byte) (used []byte, places []int) {
	used = bytes.Clone(b)
	slices.Sort(used)
	used = slices.Compact(used)
	list := string(used)
	for _, c := range b {
		ahead, behind, _ := strings.Cut(list, string([]byte{c}))
		places = append(places, len(ahead))
		list = string([]byte{c}) + ahead + behind
	}
	return used, places
}

func unfrontByWords(used []byte, places []int) ([]byte, api.Errno) {
	sorted := bytes.Clone(used)
	slices.Sort(sorted)
	if !bytes.Equal(slices.Compact(sorted), used) {
		return nil, api.ErrArg
	}
	var text []byte
	list := string(used)
	for _, place := range places {
		if place < 0 || place > len(used)-1 {
			return nil, api.ErrArg
		}
		c := list[place : place+1]
		text = append(text, c...)
		list = c + list[:place] + list[place+1:]
	}
	return text, api.OK
}

// noughtsByWords tells the symbols that are worth k: the digits of k + 1 to the base 2 without the highest, the lowest first, as a list of s symbols 0 is worth 2^s - 1, and each 1 in it as much more as its digit.
func noughtsByWords(k int) []int {
	var l []int
	for x := k + 1; x > 1; x /= 2 {
		l = append(l, x%2)
	}
	return l
}

// worthByWords tells what symbols 0 and 1 are worth together.
func worthByWords(l []int) int {
	k, at := 0, 1
	for _, symbol := range l {
		k += at
		if symbol == 1 {
			k += at
		}
		at *= 2
	}
	return k
}

func symbolsByWords(places []int, n int) ([]int, api.Errno) {
	if n < 1 || n > 256 || slices.ContainsFunc(places, func(p int) bool { return p < 0 || p > n-1 }) {
		return nil, api.ErrArg
	}
	var l []int
	for at := 0; at < len(places); {
		if p := places[at]; p > 0 {
			l = append(l, p+1)
			at++
			continue
		}
		k := slices.IndexFunc(places[at:], func(p int) bool { return p > 0 })
		if k < 0 {
			k = len(places) - at
		}
		l = append(l, noughtsByWords(k)...)
		at += k
	}
	return append(l, n+1), api.OK
}

// stopByWords seeks the first symbol at which symbols are read no further, and what is told there.
func stopByWords(symbols []int, n int) (int, api.Errno) {
	inRun := 0
	for at, symbol := range symbols {
		if symbol == 0 || symbol == 1 {
			inRun++
		} else {
			inRun = 0
		}
		if symbol < 0 || symbol > n+1 || inRun == 21 {
			return at, api.ErrForm
		}
		if symbol == n+1 && at != len(symbols)-1 {
			return at, api.ErrTail
		}
		if symbol == n+1 {
			return at, api.OK
		}
	}
	return len(symbols), api.ErrEnd
}

// tooManyByWords is whether there are more than most places at the end of a run, or at a place above 0, ahead of the symbol at which symbols are read no further. A run to which that symbol belongs has not ended.
func tooManyByWords(symbols []int, most, stop int) bool {
	count := 0
	var run []int
	for at := range stop + 1 {
		if at < len(symbols) && (symbols[at] == 0 || symbols[at] == 1) {
			run = append(run, symbols[at])
			continue
		}
		count += worthByWords(run)
		run = nil
		if at < stop {
			count++
		}
		if count > most {
			return true
		}
	}
	return false
}

func placesByWords(symbols []int, n, most int) ([]int, api.Errno) {
	if n < 1 || n > 256 || most < 0 {
		return nil, api.ErrArg
	}
	stop, e := stopByWords(symbols, n)
	if tooManyByWords(symbols, most, stop) {
		return nil, api.ErrBig
	}
	if e != api.OK {
		return nil, e
	}
	var places, run []int
	for _, symbol := range symbols {
		if symbol < 2 {
			run = append(run, symbol)
			continue
		}
		places = append(places, make([]int, worthByWords(run))...)
		run = nil
		if symbol <= n {
			places = append(places, symbol-1)
		}
	}
	return places, api.OK
}
