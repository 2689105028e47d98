package runs

import (
	"bytes"

	"hamper/api"
)

// order is the bytes by how lately they came, the last one first.
type order [256]byte

// toFront moves the byte of a place to the front, and tells it.
func (o *order) toFront(place int) byte {
	c := o[place]
	copy(o[1:place+1], o[:place])
	o[0] = c
	return c
}

// Front tells which bytes come, rising, and for each byte of a text how many others stand ahead of it.
func Front(b []byte) (used []byte, places []int) {
	used = bytesOf(b)
	var list order
	n := copy(list[:], used)
	places = make([]int, len(b))
	for i, c := range b {
		places[i] = bytes.IndexByte(list[:n:n], c)
		list.toFront(places[i])
	}
	return used, places
}

// bytesOf tells which bytes come in a text, rising.
func bytesOf(b []byte) []byte {
	var comes [256]bool
	for _, c := range b {
		comes[c] = true
	}
	var used []byte
	for c, does := range comes {
		if does {
			used = append(used, byte(c))
		}
	}
	return used
}

// Unfront tells the text.
func Unfront(used []byte, places []int) ([]byte, api.Errno) {
	if !rising(used) || !within(places, len(used)) {
		return nil, api.ErrArg
	}
	var list order
	copy(list[:], used)
	text := make([]byte, len(places))
	for i, place := range places {
		text[i] = list.toFront(place)
	}
	return text, api.OK
}

// rising is whether each byte is above the one ahead of it.
func rising(used []byte) bool {
	for i := 1; i < len(used); i++ {
		if used[i] <= used[i-1] {
			return false
		}
	}
	return true
}

// within is whether all places are from 0 to n - 1.
func within(places []int, n int) bool {
	for _, place := range places {
		if place < 0 || place >= n {
			return false
		}
	}
	return true
}
