package bzip2_test

import (
	"cmp"
	"fmt"
	"slices"
	"sort"
	"strconv"
	"strings"

	"hamper/api"
	"hamper/limit"
	"hamper/runs"
	"hamper/suffix"
)

// The model tells each answer by the chapter's words alone, in other ways than the program: bits are the digits of a text, words are looked up as texts, and what is wrong is a panic of its number. Of the layers below it asks those alone that the chapter names for what they tell of a whole text: limit, runs and suffix.

const (
	blockDigits = "001100010100000101011001001001100101001101011001" // 314159 265359
	endDigits   = "000101110111001001000101001110000101000010010000" // 177245 385090
)

// digits tells a number's n bits, the highest first.
func digits[T int | byte | uint32 | uint64](v T, n int) string { return fmt.Sprintf("%0*b", n, v) }

// bytesOf tells the bytes of digits, with noughts up to a whole place.
func bytesOf(s string) []byte {
	s += strings.Repeat("0", (8-len(s)%8)%8)
	b := make([]byte, len(s)/8)
	for i, c := range []byte(s) {
		b[i/8] = 2*b[i/8] + c - '0'
	}
	return b
}

// digitsOf tells the digits of bytes.
func digitsOf(b []byte) string {
	var s strings.Builder
	for _, c := range b {
		for at := 128; at > 0; at /= 2 {
			s.WriteByte('0' + c/byte(at)%2)
		}
	}
	return s.String()
}

// pieceByWords is how many bytes the first piece has: the most whose runs, written shorter, have the room.
func pieceByWords(b []byte, room int) int {
	return sort.Search(len(b), func(n int) bool { return len(runs.Pack(b[:n+1])) > room })
}

func blocksByWords(b []byte, level int) ([][]byte, api.Errno) {
	if level < 1 || level > 9 {
		return nil, api.ErrArg
	}
	if len(b) > 268435456 {
		return nil, api.ErrBig
	}
	var l [][]byte
	for rest := b; len(rest) > 0; rest = rest[len(l[len(l)-1]):] {
		l = append(l, rest[:pieceByWords(rest, 100000*level-19)])
	}
	return l, api.OK
}

// sumByWords turns the digits of the sum, and holds them against those of each block's sum one by one.
func sumByWords(l []uint32) uint32 {
	sum := strings.Repeat("0", 32)
	for _, x := range l {
		sum = sum[1:] + sum[:1]
		both := []byte(sum)
		for i, c := range []byte(digits(x, 32)) {
			if both[i] == c {
				both[i] = '0'
			} else {
				both[i] = '1'
			}
		}
		sum = string(both)
	}
	v, _ := strconv.ParseUint(sum, 2, 32)
	return uint32(v)
}

// crcByWords is sums.CrcHigh from 0 on, bit by bit.
func crcByWords(b []byte) uint32 {
	register := uint32(0xffffffff)
	for _, c := range b {
		for at := 7; at >= 0; at-- {
			unlike := register>>31 != uint32(c>>at&1)
			register <<= 1
			if unlike {
				register ^= 0x04c11db7
			}
		}
	}
	return ^register
}

// wordsByLengths tells each symbol's word of a canonical code: they are counted up, in the order of lengths and then of symbols.
func wordsByLengths(lengths []int) []string {
	order := make([]int, len(lengths))
	for i := range order {
		order[i] = i
	}
	slices.SortStableFunc(order, func(a, b int) int { return cmp.Compare(lengths[a], lengths[b]) })
	words := make([]string, len(lengths))
	next, now := 0, 0
	for _, symbol := range order {
		next <<= lengths[symbol] - now
		now = lengths[symbol]
		words[symbol] = digits(next, now)
		next++
	}
	return words
}

// tableByWords is a table's digits.
func tableByWords(lengths []int) string {
	s := digits(lengths[0], 5)
	now := lengths[0]
	for _, length := range lengths {
		s += strings.Repeat("10", max(0, length-now)) + strings.Repeat("11", max(0, now-length)) + "0"
		now = length
	}
	return s
}

// usedByWords is the digits that say which bytes come.
func usedByWords(used []byte) string {
	var groups, members string
	for i := range 16 {
		group := ""
		for j := range 16 {
			if slices.Contains(used, byte(16*i+j)) {
				group += "1"
			} else {
				group += "0"
			}
		}
		if strings.Contains(group, "1") {
			groups += "1"
			members += group
		} else {
			groups += "0"
		}
	}
	return groups + members
}

// lengthsByWords is how long the words are that Make takes for symbols, of which there are n + 2.
func lengthsByWords(symbols []int, n int) []int {
	often := make([]int, n+2)
	for i := range often {
		often[i] = 1
	}
	for _, symbol := range symbols {
		often[symbol]++
	}
	lengths, e := limit.Lengths(often, 17)
	failIf(e != api.OK, e)
	return lengths
}

func blockByWords(piece []byte) string {
	column, row, _ := suffix.Turn(runs.Pack(piece))
	used, places := runs.Front(column)
	symbols, _ := runs.Symbols(places, len(used))
	lengths := lengthsByWords(symbols, len(used))
	s := 0
	for range slices.Chunk(symbols, 50) {
		s++
	}
	var d strings.Builder
	d.WriteString(blockDigits + digits(crcByWords(piece), 32) + "0" + digits(row, 24) + usedByWords(used))
	d.WriteString("010" + digits(s, 15) + strings.Repeat("0", s))
	d.WriteString(tableByWords(lengths) + tableByWords(lengths))
	words := wordsByLengths(lengths)
	for _, symbol := range symbols {
		d.WriteString(words[symbol])
	}
	return d.String()
}

func makeByWords(b []byte, level int) ([]byte, api.Errno) {
	pieces, e := blocksByWords(b, level)
	if e != api.OK {
		return nil, e
	}
	var l []uint32
	var d strings.Builder
	for _, piece := range pieces {
		l = append(l, crcByWords(piece))
		d.WriteString(blockByWords(piece))
	}
	d.WriteString(endDigits + digits(sumByWords(l), 32))
	return append([]byte("BZh"+strconv.Itoa(level)), bytesOf(d.String())...), api.OK
}

// failIf ends the model's reading.
func failIf(wrong bool, e api.Errno) {
	if wrong {
		panic(e)
	}
}

// paper is the digits that are not read yet.
type paper struct{ rest string }

// take reads n digits.
func (p *paper) take(n int) string {
	failIf(n > len(p.rest), api.ErrEnd)
	s := p.rest[:n]
	p.rest = p.rest[n:]
	return s
}

// number reads a number of n bits.
func (p *paper) number(n int) int {
	v, err := strconv.ParseUint(p.take(n), 2, 63)
	failIf(err != nil, -1)
	return int(v)
}

// readByWords is Read by the chapter's words.
func readByWords(b []byte, most int) (text []byte, e api.Errno) {
	defer func() {
		if x := recover(); x != nil {
			text, e = nil, x.(api.Errno)
		}
	}()
	failIf(most < 0 || most > 268435456, api.ErrArg)
	p := &paper{digitsOf(b)}
	for {
		text = streamByWords(p, text, most)
		p.take(len(p.rest) % 8)
		if p.rest == "" {
			return text, api.OK
		}
	}
}

// streamByWords reads a stream, behind the text of those ahead of it.
func streamByWords(p *paper, text []byte, most int) []byte {
	failIf(p.take(24) != digitsOf([]byte("BZh")), api.ErrForm)
	level := strings.Index("0123456789", string(bytesOf(p.take(8))))
	failIf(level < 1, api.ErrKind)
	var l []uint32
	for {
		mark := p.take(48)
		failIf(mark != blockDigits && mark != endDigits, api.ErrForm)
		if mark == endDigits {
			failIf(uint32(p.number(32)) != sumByWords(l), api.ErrSum)
			return text
		}
		piece := readBlockByWords(p, level, most-len(text))
		l = append(l, crcByWords(piece))
		text = append(text, piece...)
	}
}

func readBlockByWords(p *paper, level, most int) []byte {
	sum := p.number(32)
	failIf(p.take(1) == "1", api.ErrKind)
	row := p.number(24)
	used := readUsedByWords(p)
	symbols := readSymbolsByWords(p, len(used))
	places, e := runs.Places(symbols, len(used), 100000*level)
	failIf(e != api.OK, e)
	column, e := runs.Unfront(used, places)
	failIf(e != api.OK, e)
	failIf(row >= len(places), api.ErrForm)
	packed, e := suffix.Back(column, row)
	failIf(e != api.OK, e)
	piece, e := runs.Unpack(packed, most)
	failIf(e != api.OK, e)
	failIf(crcByWords(piece) != uint32(sum), api.ErrSum)
	return piece
}

func readUsedByWords(p *paper) []byte {
	groups := p.take(16)
	all := ""
	for _, c := range groups {
		if c == '1' {
			all += p.take(16)
		} else {
			all += strings.Repeat("0", 16)
		}
	}
	var used []byte
	for i, c := range all {
		if c == '1' {
			used = append(used, byte(i))
		}
	}
	failIf(len(used) == 0, api.ErrForm)
	return used
}

func readSymbolsByWords(p *paper, n int) []int {
	count := p.number(3)
	failIf(count < 2 || count > 6, api.ErrForm)
	s := p.number(15)
	failIf(s == 0, api.ErrForm)
	list := "012345"
	var chosen []byte
	for range s {
		ahead := 0
		for p.take(1) == "1" {
			ahead++
			failIf(ahead == count, api.ErrForm)
		}
		c := list[ahead : ahead+1]
		list = c + strings.Replace(list, c, "", 1)
		chosen = append(chosen, c...)
	}
	var tables [][]int
	for range count {
		tables = append(tables, readTableByWords(p, n+2))
	}
	var codes []map[string]int
	for _, lengths := range tables {
		codes = append(codes, codeByWords(lengths))
	}
	var symbols []int
	for _, c := range chosen {
		for range 50 {
			symbol := readSymbolByWords(p, codes[c-'0'])
			symbols = append(symbols, symbol)
			if symbol == n+1 {
				return symbols
			}
		}
	}
	panic(api.ErrForm)
}

func readTableByWords(p *paper, count int) []int {
	length := p.number(5)
	var lengths []int
	for len(lengths) < count {
		failIf(length == 0 || length > 20, api.ErrForm)
		if p.take(1) == "0" {
			lengths = append(lengths, length)
			continue
		}
		if p.take(1) == "0" {
			length++
		} else {
			length--
		}
	}
	return lengths
}

// codeByWords is a code by its words; a code that is not full is none.
func codeByWords(lengths []int) map[string]int {
	room := 1 << 20
	for _, length := range lengths {
		room -= 1 << (20 - length)
	}
	failIf(room != 0, api.ErrCode)
	code := map[string]int{}
	for symbol, word := range wordsByLengths(lengths) {
		code[word] = symbol
	}
	return code
}

func readSymbolByWords(p *paper, code map[string]int) int {
	for n := 1; ; n++ {
		failIf(n > len(p.rest), api.ErrEnd)
		if symbol, found := code[p.rest[:n]]; found {
			p.take(n)
			return symbol
		}
	}
}
