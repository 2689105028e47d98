package deflate_test

import (
	"sort"
	"strings"

	"hamper/api"
	"hamper/deflate"
	"hamper/limit"
	"hamper/token"
)

// The symbols of lengths and of distances as RFC 1951 lists them: the least, and how many bits go with it.
var (
	listedLengths = [][2]int{
		{3, 0}, {4, 0}, {5, 0}, {6, 0}, {7, 0}, {8, 0}, {9, 0}, {10, 0}, {11, 1}, {13, 1}, {15, 1}, {17, 1}, {19, 2}, {23, 2}, {27, 2},
		{31, 2}, {35, 3}, {43, 3}, {51, 3}, {59, 3}, {67, 4}, {83, 4}, {99, 4}, {115, 4}, {131, 5}, {163, 5}, {195, 5}, {227, 5}, {258, 0},
	}
	listedDistances = [][2]int{
		{1, 0}, {2, 0}, {3, 0}, {4, 0}, {5, 1}, {7, 1}, {9, 2}, {13, 2}, {17, 3}, {25, 3}, {33, 4}, {49, 4}, {65, 5}, {97, 5}, {129, 6},
		{193, 6}, {257, 7}, {385, 7}, {513, 8}, {769, 8}, {1025, 9}, {1537, 9}, {2049, 10}, {3073, 10}, {4097, 11}, {6145, 11},
		{8193, 12}, {12289, 12}, {16385, 13}, {24577, 13},
	}
	listedOrder = []int{16, 17, 18, 0, 8, 7, 9, 6, 10, 5, 11, 4, 12, 3, 13, 2, 14, 1, 15}
)

// many is a list of one number, so many times.
func many(v, times int) []int {
	l := make([]int, times)
	for i := range l {
		l[i] = v
	}
	return l
}

// joined is lists one behind the other.
func joined(lists ...[]int) []int {
	var all []int
	for _, l := range lists {
		all = append(all, l...)
	}
	return all
}

// listedFor tells the last row of a list whose least is not above v: the greatest such least, as they rise.
func listedFor(listed [][2]int, v int) int {
	found := -1
	for i, row := range listed {
		if row[0] <= v {
			found = i
		}
	}
	return found
}

// digitsOf tells a number's n digits to the base 2, the highest first.
func digitsOf(v, n int) string {
	s := ""
	for range n {
		s = string(rune('0'+v%2)) + s
		v /= 2
	}
	return s
}

// lowFirst tells a number's n bits as they are read: the lowest first.
func lowFirst(v, n int) string {
	s := ""
	for range n {
		s += string(rune('0' + v%2))
		v /= 2
	}
	return s
}

// wordsOf tells each symbol's word as digits (none: ""), by the document's words for canonical codes.
func wordsOf(lengths []int) []string {
	var symbols []int
	for s, n := range lengths {
		if n > 0 {
			symbols = append(symbols, s)
		}
	}
	sort.SliceStable(symbols, func(i, j int) bool { return lengths[symbols[i]] < lengths[symbols[j]] })
	words := make([]string, len(lengths))
	next, at := 0, 0
	for _, s := range symbols {
		for ; at < lengths[s]; at++ {
			next *= 2
		}
		words[s] = digitsOf(next, at)
		next++
	}
	return words
}

// The fixed codes' words, made once for all tests.
var (
	fixedWords = wordsOf(joined(many(8, 144), many(9, 112), many(7, 24), many(8, 8)))
	fixedFar   = wordsOf(many(5, 32))
)

// run is a symbol of Runs with its number.
type run struct{ symbol, more int }

// runsByWords tells Runs by the document's words alone.
func runsByWords(lengths []int) []run {
	var l []run
	for at := 0; at < len(lengths); {
		v, n := lengths[at], 0
		for at+n < len(lengths) && lengths[at+n] == v {
			n++
		}
		switch {
		case v == 0 && n >= 11:
			n = min(n, 138)
			l = append(l, run{18, n - 11})
		case v == 0 && n >= 3:
			l = append(l, run{17, n - 3})
		case v > 0 && at > 0 && lengths[at-1] == v && n >= 3:
			n = min(n, 6)
			l = append(l, run{16, n - 3})
		default:
			n = 1
			l = append(l, run{v, 0})
		}
		at += n
	}
	return l
}

// best is limit.Lengths where it must tell some.
func best(often []int, most int) []int {
	l, e := limit.Lengths(often, most)
	if e != api.OK {
		panic(e)
	}
	return l
}

// cutNoughts leaves out trailing noughts from a place on.
func cutNoughts(l []int, from int) []int {
	for len(l) > from && l[len(l)-1] == 0 {
		l = l[:len(l)-1]
	}
	return l
}

// countSymbols tells how often each symbol comes in tokens and at a block's end.
func countSymbols(tokens []api.Token) (near, far []int) {
	near, far = many(0, 286), many(0, 30)
	near[256] = 1
	for _, t := range tokens {
		if t.Length == 0 {
			near[t.Byte]++
			continue
		}
		near[257+listedFor(listedLengths, t.Length)]++
		far[listedFor(listedDistances, t.Distance)]++
	}
	return near, far
}

// body tells tokens and a block's end by words.
func body(near, far []string, tokens []api.Token) string {
	var s strings.Builder
	measured := func(words []string, listed [][2]int, v int) {
		i := listedFor(listed, v)
		s.WriteString(words[i] + lowFirst(v-listed[i][0], listed[i][1]))
	}
	for _, t := range tokens {
		if t.Length == 0 {
			s.WriteString(near[t.Byte])
			continue
		}
		measured(near[257:], listedLengths, t.Length)
		measured(far, listedDistances, t.Distance)
	}
	s.WriteString(near[256])
	return s.String()
}

// begun is a block's first three digits.
func begun(last bool, kind int) string {
	if last {
		return "1" + lowFirst(kind, 2)
	}
	return "0" + lowFirst(kind, 2)
}

// storedDigits tells a stored block behind so many digits.
func storedDigits(last bool, at int, plain []byte) string {
	var s strings.Builder
	s.WriteString(begun(last, 0))
	for (at+s.Len())%8 != 0 {
		s.WriteString("0")
	}
	s.WriteString(lowFirst(len(plain), 16) + lowFirst(65535-len(plain), 16))
	for _, x := range plain {
		s.WriteString(lowFirst(int(x), 8))
	}
	return s.String()
}

func fixedDigits(last bool, tokens ...api.Token) string {
	return begun(last, 1) + body(fixedWords, fixedFar, tokens)
}

// head is how a told block tells its codes.
type head struct {
	near, far, inner []int // lengths, the first two as far as they are told
	count            int   // of the inner lengths, in their order
	runs             []run
}

func headOf(tokens []api.Token) head {
	near, far := countSymbols(tokens)
	h := head{near: cutNoughts(best(near, 15), 257), far: cutNoughts(best(far, 15), 1)}
	h.runs = runsByWords(joined(h.near, h.far))
	often := many(0, 19)
	for _, r := range h.runs {
		often[r.symbol]++
	}
	h.inner = best(often, 7)
	var ordered []int
	for _, s := range listedOrder {
		ordered = append(ordered, h.inner[s])
	}
	h.count = len(cutNoughts(ordered, 4))
	return h
}

func toldDigits(last bool, tokens ...api.Token) string {
	h := headOf(tokens)
	s := begun(last, 2) + lowFirst(len(h.near)-257, 5) + lowFirst(len(h.far)-1, 5) + lowFirst(h.count-4, 4)
	for _, symbol := range listedOrder[:h.count] {
		s += lowFirst(h.inner[symbol], 3)
	}
	words := wordsOf(h.inner)
	for _, r := range h.runs {
		s += words[r.symbol] + lowFirst(r.more, map[int]int{16: 2, 17: 3, 18: 7}[r.symbol])
	}
	return s + body(wordsOf(h.near), wordsOf(h.far), tokens)
}

// answer is a packed text: its digits, and of each block its kind, and the digits that it has of each kind at its place.
type answer struct {
	digits string
	kinds  []int
	sizes  [][4]int
}

// byWords tells what Deflate must tell, by the document's words.
func byWords(b []byte, block, kind int) answer {
	var a answer
	var all strings.Builder
	for from, last := 0, false; !last; from += block {
		end := from + block
		if end >= len(b) {
			end, last = len(b), true
		}
		tokens, e := token.Parse(b[:end], from, 32768, 3, 258)
		if e != api.OK {
			panic(e)
		}
		written := [4]string{
			deflate.Stored: storedDigits(last, all.Len(), b[from:end]),
			deflate.Fixed:  fixedDigits(last, tokens...),
			deflate.Told:   toldDigits(last, tokens...),
		}
		taken := kind
		if kind == deflate.Best {
			taken = deflate.Stored
			for _, k := range []int{deflate.Fixed, deflate.Told} {
				if len(written[k]) < len(written[taken]) {
					taken = k
				}
			}
		}
		all.WriteString(written[taken])
		a.kinds = append(a.kinds, taken)
		a.sizes = append(a.sizes, [4]int{0, len(written[1]), len(written[2]), len(written[3])})
	}
	a.digits = all.String()
	return a
}

// packed is digits as bytes, the last one filled with noughts.
func packed(digits string) []byte {
	b := make([]byte, (len(digits)+7)/8)
	for i := range digits {
		if digits[i] == '1' {
			b[i/8] |= 1 << (i % 8)
		}
	}
	return b
}

func single(c byte) api.Token { return api.Token{Byte: c} }

func piece(length, distance int) api.Token { return api.Token{Length: length, Distance: distance} }

// singles is each byte of a text.
func singles(s string) []api.Token {
	var l []api.Token
	for _, x := range []byte(s) {
		l = append(l, single(x))
	}
	return l
}
