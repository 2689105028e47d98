package bzip2_test

import (
	"bytes"
	"math/rand"
	"slices"
	"strconv"
	"strings"

	"hamper/api"
	"hamper/runs"
	"hamper/suffix"
)

// block is a block as a test writes it: the digits of its fields, so that each of them may be changed by itself.
type block struct {
	mark, sum, mixed, row, used, tables, count, selectors string
	lengths                                               []string
	symbols                                               string
}

// digits is all of a block.
func (b block) digits() string { return b.ahead() + b.symbols }

// ahead is what stands ahead of the symbols.
func (b block) ahead() string {
	return b.aheadOfTables() + strings.Join(b.lengths, "")
}

// aheadOfTables is what stands ahead of the tables' lengths.
func (b block) aheadOfTables() string {
	return b.mark + b.sum + b.mixed + b.row + b.used + b.tables + b.count + b.selectors
}

// told is the block's sum, as it says it.
func (b block) told() uint32 {
	v, err := strconv.ParseUint(b.sum, 2, 32)
	failIf(err != nil, -1)
	return uint32(v)
}

// content is what a block says, whatever tables it has.
type content struct {
	sum     uint32
	row     int
	used    []byte
	symbols []int
}

// contentOf is what a text's block says.
func contentOf(piece []byte) content {
	c := contentOfPacked(runs.Pack(piece))
	c.sum = crcByWords(piece)
	return c
}

// contentOfPacked is what a block says of which this is the text, its runs written shorter, if they are. Its sum is that of the text that comes out, if one does.
func contentOfPacked(packed []byte) content {
	column, row, _ := suffix.Turn(packed)
	used, places := runs.Front(column)
	symbols, _ := runs.Symbols(places, len(used))
	text, _ := runs.Unpack(packed, api.MaxBytes)
	return content{crcByWords(text), row, used, symbols}
}

// contentOfColumn is what a block says that has a column and a row, whether a text has that column or not.
func contentOfColumn(column []byte, row int) content {
	used, places := runs.Front(column)
	symbols, _ := runs.Symbols(places, len(used))
	packed, _ := suffix.Back(column, row)
	text, _ := runs.Unpack(packed, api.MaxBytes)
	return content{crcByWords(text), row, used, symbols}
}

// selectorDigits is how tables are chosen: each by how many are ahead of it in a list, to whose front it goes.
func selectorDigits(chosen []int) string {
	list := []int{0, 1, 2, 3, 4, 5}
	var s strings.Builder
	for _, table := range chosen {
		at := slices.Index(list, table)
		s.WriteString(strings.Repeat("1", at) + "0")
		list = slices.Insert(slices.Delete(list, at, at+1), 0, table)
	}
	return s.String()
}

// write writes a block of these tables, of which each 50 symbols have the next one that is chosen.
func (c content) write(tables [][]int, chosen []int) block {
	b := block{
		mark: blockDigits, sum: digits(c.sum, 32), mixed: "0", row: digits(c.row, 24), used: usedByWords(c.used),
		tables: digits(len(tables), 3), count: digits(len(chosen), 15), selectors: selectorDigits(chosen),
	}
	var words [][]string
	for _, lengths := range tables {
		b.lengths = append(b.lengths, tableByWords(lengths))
		words = append(words, wordsByLengths(lengths))
	}
	var s strings.Builder
	for i, symbol := range c.symbols {
		if i/50 < len(chosen) {
			s.WriteString(words[chosen[i/50]][symbol])
		} else {
			s.WriteString(words[0][symbol])
		}
	}
	b.symbols = s.String()
	return b
}

// plain writes a block as Make does.
func (c content) plain() block {
	lengths := lengthsByWords(c.symbols, len(c.used))
	return c.write([][]int{lengths, lengths}, make([]int, c.selectors()))
}

// selectors is how many selectors the symbols need.
func (c content) selectors() int { return (len(c.symbols) + 49) / 50 }

// mixed writes a block of several tables, each of them another, that are chosen at random.
func (c content) mixed(r *rand.Rand, count int) block {
	var tables [][]int
	for range count {
		tables = append(tables, someLengths(r, len(c.used)+2))
	}
	chosen := make([]int, c.selectors()+r.Intn(3)*r.Intn(3))
	for i := range chosen {
		chosen[i] = r.Intn(count)
	}
	return c.write(tables, chosen)
}

// someLengths tells any full code's lengths, of at most 20 bits: a word is made two, as long as there are too few.
func someLengths(r *rand.Rand, count int) []int {
	lengths := []int{0}
	deep := r.Intn(2) == 0
	for len(lengths) < count {
		at := r.Intn(len(lengths))
		if deep { // the last ones are the longest
			at = len(lengths) - 1 - r.Intn(2)*r.Intn(len(lengths))
		}
		if lengths[at] == 20 {
			at = slices.Index(lengths, slices.Min(lengths))
		}
		lengths[at]++
		lengths = append(lengths, lengths[at])
	}
	r.Shuffle(count, func(i, j int) { lengths[i], lengths[j] = lengths[j], lengths[i] })
	return lengths
}

// chain tells the lengths of a code of so many words, each of them but the last ones longer than the one ahead, up to 20 bits.
func chain(count int) []int {
	var lengths []int
	for i := range count - 1 {
		lengths = append(lengths, i+1)
	}
	return append(lengths, count-1)
}

// headDigits is what a stream begins with.
func headDigits(level int) string { return digitsOf([]byte("BZh" + strconv.Itoa(level))) }

// endOf is a stream's end.
func endOf(l ...block) string {
	var told []uint32
	for _, b := range l {
		told = append(told, b.told())
	}
	return endDigits + digits(sumByWords(told), 32)
}

// streamOf writes a stream of blocks.
func streamOf(level int, l ...block) []byte {
	var s strings.Builder
	s.WriteString(headDigits(level))
	for _, b := range l {
		s.WriteString(b.digits())
	}
	s.WriteString(endOf(l...))
	return bytesOf(s.String())
}

// letters is a text of random letters.
func letters(r *rand.Rand, size, first, count int) []byte {
	b := make([]byte, size)
	for i := range b {
		b[i] = byte(first + r.Intn(count))
	}
	return b
}

// inRuns is a text of runs.
func inRuns(r *rand.Rand, count, longest, letters int) []byte {
	var b []byte
	for range count {
		b = append(b, bytes.Repeat([]byte{byte(97 + r.Intn(letters))}, 1+r.Intn(longest))...)
	}
	return b
}

// unlike is a text in which no byte is like the one ahead of it.
func unlike(size int) []byte {
	b := make([]byte, size)
	for i := range b {
		b[i] = byte(97 + (i+i/7)%11)
		if i > 0 && b[i] == b[i-1] {
			b[i]++
		}
	}
	return b
}

// all256 is each byte value, rising.
func all256() []byte {
	b := make([]byte, 256)
	for i := range b {
		b[i] = byte(i)
	}
	return b
}
