package suffix_test

import (
	"bytes"
	"sort"

	"hamper/api"
)

const mostBytes = 1 << 20

// The model tells each answer by the document's words alone: turnings that are laid out whole and compared byte by byte, bytes that are counted again for each place.

// turning lays out the text from a place on, and then what is ahead of it.
func turning(b []byte, place int) []byte {
	return append(bytes.Clone(b[place:]), b[:place]...)
}

func rowsByWords(b []byte) []int {
	turnings := make([][]byte, len(b))
	places := make([]int, len(b))
	for i := range b {
		turnings[i] = turning(b, i)
		places[i] = i
	}
	sort.Slice(places, func(i, j int) bool {
		x, y := places[i], places[j]
		if c := bytes.Compare(turnings[x], turnings[y]); c != 0 {
			return c < 0
		}
		return x < y
	})
	return places
}

func turnByWords(b []byte) (column []byte, row int) {
	for i, place := range rowsByWords(b) {
		whole := turning(b, place)
		column = append(column, whole[len(whole)-1])
		if place == 0 {
			row = i
		}
	}
	return column, row
}

// nextByWords counts for each place of the column how many bytes of the sorted one are ahead of its byte: those that are less, and the like ones that stand ahead.
func nextByWords(column []byte) []int {
	next := make([]int, len(column))
	for place, c := range column {
		ahead := 0
		for other, d := range column {
			if d < c || d == c && other < place {
				ahead++
			}
		}
		next[ahead] = place
	}
	return next
}

func backByWords(column []byte, row int) ([]byte, api.Errno) {
	if len(column) > mostBytes {
		return nil, api.ErrBig
	}
	if len(column) == 0 && row != 0 || len(column) > 0 && (row < 0 || row > len(column)-1) {
		return nil, api.ErrArg
	}
	if len(column) == 0 {
		return nil, api.OK
	}
	next := nextByWords(column)
	var text []byte
	for x := next[row]; len(text) < len(column); x = next[x] {
		text = append(text, column[x])
	}
	return text, api.OK
}
