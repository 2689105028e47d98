package suffix

import (
	"cmp"
	"slices"
)

// firstBytes are the bytes of each turning that are looked at before the turnings are grouped.
const firstBytes = 4

// group is of turnings that begin alike, as far as they have been looked at: the rows from one on, and up to another.
type group struct {
	from, to int
}

// turnings are those of a text on their way into order: each group's rows side by side, the groups in order.
type turnings struct {
	places []int   // the place of each row's turning
	ranks  []int   // of each place: the first row of its turning's group
	open   []group // the groups of more than one turning
	pieces []group // those that a group was parted into last: room that is taken again, as there are many groups
}

// sortTurnings tells the places of a text's turnings, sorted. Turnings that begin with like bytes are put in order by the ranks of the places behind these bytes, so that each round looks at twice as many bytes as the one ahead of it.
func sortTurnings(b []byte) []int {
	t := begin(b)
	for ahead := firstBytes; ahead < len(b); ahead *= 2 {
		if !t.refine(ahead) { // then no round would part any of them: turnings that are left in one group are like one another
			break
		}
	}
	for _, g := range t.open {
		slices.Sort(t.places[g.from:g.to])
	}
	return t.places
}

// begin puts a text's turnings in order by their first bytes.
func begin(b []byte) *turnings {
	t := &turnings{places: rising(len(b)), ranks: make([]int, len(b))}
	for place := range b {
		for i := range firstBytes {
			t.ranks[place] = t.ranks[place]<<8 | int(b[(place+i)%len(b)])
		}
	}
	for i := range firstBytes {
		t.places = sortByByte(t.places, func(place int) byte { return byte(t.ranks[place] >> (8 * i)) })
	}
	t.part(group{0, len(b)}, func(place int) int { return t.ranks[place] })
	return t
}

// refine puts each group's turnings in order by the ranks of the places so many bytes ahead, and is whether any group was parted.
func (t *turnings) refine(ahead int) bool {
	rankAhead := func(place int) int {
		place += ahead
		if place >= len(t.ranks) {
			place -= len(t.ranks)
		}
		return t.ranks[place]
	}
	groups := t.open
	t.open = nil
	parted := false
	for _, g := range groups {
		slices.SortFunc(t.places[g.from:g.to], func(x, y int) int { return cmp.Compare(rankAhead(x), rankAhead(y)) })
		parted = t.part(g, rankAhead) || parted
	}
	return parted
}

// part makes groups of a group whose turnings are in order by the numbers that a function tells of their places, and is whether they are several.
func (t *turnings) part(g group, numberOf func(place int) int) bool {
	t.pieces = t.pieces[:0]
	from := g.from
	for row := g.from + 1; row <= g.to; row++ {
		if row == g.to || numberOf(t.places[row-1]) != numberOf(t.places[row]) {
			t.pieces = append(t.pieces, group{from, row})
			from = row
		}
	}
	for _, p := range t.pieces { // only now, as the numbers may hang on the ranks
		for _, place := range t.places[p.from:p.to] {
			t.ranks[place] = p.from
		}
		if p.to-p.from > 1 {
			t.open = append(t.open, p)
		}
	}
	return len(t.pieces) > 1
}
