package bzip2_test

import (
	"bytes"
	"math/rand"
	"slices"
	"strconv"
	"strings"
	"testing"

	"hamper/api"
	"hamper/runs"
	"hamper/suffix"
)

// cutBehind is a stream that ends right behind some digits: a block ahead of them, of the text "a", has as many selectors too many as it takes for these to end at a whole place. (Padding would be bits that may be read.)
func cutBehind(level int, s string) []byte {
	c := contentOf([]byte("a"))
	lengths := []int{2, 2, 1}
	for more := 1; ; more++ {
		filler := c.write([][]int{lengths, lengths}, make([]int, more))
		if whole := headDigits(level) + filler.digits() + s; len(whole)%8 == 0 {
			return bytesOf(whole)
		}
	}
}

// checkTold asks for an error that is told right at the last of some digits behind a good block: nothing behind it is looked at, and without that digit bits are lacking.
func checkTold(t *testing.T, name, s string, want api.Errno) {
	t.Helper()
	checkFails(t, name, cutBehind(1, s), want)
	checkFails(t, name+", something behind it", bytesOf(digitsOf(cutBehind(1, s))+strings.Repeat("10", 300)), want)
	checkFails(t, name+", its last bit lacks", cutBehind(1, s[:len(s)-1]), api.ErrEnd)
}

// checkLacks asks for digits behind which bits are lacking.
func checkLacks(t *testing.T, name, s string) {
	t.Helper()
	checkFails(t, name, cutBehind(1, s), api.ErrEnd)
}

func banana() block { return contentOf([]byte("banana")).plain() }

func TestP12_4NoBytes(t *testing.T) {
	for _, none := range [][]byte{nil, {}} {
		for _, most := range []int{0, 1, api.MaxBytes} {
			check(t, "nothing", none, most, nil, api.ErrEnd)
		}
	}
}

// Each beginning of a made text lacks bits.
func TestP12_4Beginnings(t *testing.T) {
	r := rand.New(rand.NewSource(127))
	for _, text := range []string{"", "a", "banana", string(all256()), strings.Repeat("z", 900), string(letters(r, 300, 97, 9))} {
		b := mustMake(text, 4)
		for n := range b {
			checkFails(t, "a beginning", b[:n], api.ErrEnd)
		}
		checkTells(t, "all", b, text)
	}
}

// The same bit by bit, wherever a block stands.
func TestP12_4EachBitLacks(t *testing.T) {
	r := rand.New(rand.NewSource(128))
	for _, b := range []block{banana(), contentOf([]byte("mississippi")).mixed(r, 6), contentOf(letters(r, 130, 97, 4)).mixed(r, 3)} {
		all := b.digits() + endOf(contentOf([]byte("a")).plain(), b)
		for n := range len(all) {
			checkLacks(t, "the first "+strconv.Itoa(n)+" digits", all[:n])
		}
		if text, e := read(t, cutBehind(1, all), 999); e != api.OK || len(text) < 7 {
			t.Errorf("all digits: %q, %v", text, e)
		}
	}
}

func TestP12_4FirstBytes(t *testing.T) {
	rest := string(mustMake("banana", 9)[4:])
	for at := range 3 {
		for c := range 256 {
			b := []byte("BZh9" + rest)
			b[at] = byte(c)
			if b[at] == "BZh"[at] {
				checkTells(t, "BZh", b, "banana")
				continue
			}
			checkFails(t, "another byte", b, api.ErrForm)
			checkFails(t, "three bytes", b[:3], api.ErrForm)
			checkFails(t, "fewer bytes", b[:2], api.ErrEnd)
			checkFails(t, "fewer bytes", b[:1], api.ErrEnd)
			b[3] = '0'
			checkFails(t, "ErrForm goes ahead of ErrKind", b, api.ErrForm)
		}
	}
	for c := range 256 {
		b := []byte("BZh" + string([]byte{byte(c)}) + rest)
		if '1' <= c && c <= '9' {
			checkTells(t, "a digit", b, "banana")
			checkFails(t, "a digit alone", b[:4], api.ErrEnd)
			continue
		}
		checkFails(t, "no digit", b, api.ErrKind)
		checkFails(t, "no digit alone", b[:4], api.ErrKind)
		checkFails(t, "in a second stream", slices.Concat(mustMake("a", 1), b), api.ErrKind)
	}
	checkFails(t, "BZh", []byte("BZh"), api.ErrEnd)
}

func TestP12_4Behind(t *testing.T) {
	for _, ahead := range [][]byte{mustMake("", 9), mustMake("a", 1), mustMake("banana", 5), mustMake("zzzzz", 1)} {
		for c := range 256 {
			for _, count := range []int{1, 2} {
				checkFails(t, "too few bytes", slices.Concat(ahead, bytes.Repeat([]byte{byte(c)}, count)), api.ErrEnd)
			}
			checkFails(t, "no stream", slices.Concat(ahead, bytes.Repeat([]byte{byte(c)}, 3)), api.ErrForm)
		}
		for n := 1; n <= 5; n++ {
			checkFails(t, "a beginning", slices.Concat(ahead, []byte("BZh1\x17")[:n]), api.ErrEnd)
		}
	}
}

// Streams of different levels one behind the other, the empty one among them.
func TestP12_4Streams(t *testing.T) {
	texts := []string{"", "a", "banana", strings.Repeat("z", 700), string(all256())}
	for _, first := range texts {
		for _, second := range texts {
			b := slices.Concat(mustMake(first, 2), mustMake(second, 7))
			checkTells(t, "two", b, first+second)
			checkTells(t, "three", slices.Concat(b, mustMake(first, 1)), first+second+first)
			checkFails(t, "the last byte lacks", b[:len(b)-1], api.ErrEnd)
		}
	}
	checkTells(t, "many", bytes.Repeat(mustMake("ab", 1), 500), strings.Repeat("ab", 500))
	checkTells(t, "many of nothing", bytes.Repeat(mustMake("", 1), 500), "")
}

// Up to the next whole place bits may be anything.
func TestP12_4BitsUpToAWholePlace(t *testing.T) {
	seen := map[int]bool{}
	for size := range 20 {
		text := strings.Repeat("ab", size)
		s := headDigits(1)
		var l []block
		if size > 0 {
			l = append(l, contentOf([]byte(text)).plain())
			s += l[0].digits()
		}
		s += endOf(l...)
		room := (8 - len(s)%8) % 8
		seen[room] = true
		for _, fill := range []string{"0000000", "1111111", "1010101", "0000001", "1000000"} {
			b := bytesOf(s + fill[:room])
			checkTells(t, "filled", b, text)
			checkTells(t, "filled, and another one", slices.Concat(b, mustMake("c", 1)), text+"c")
		}
	}
	if len(seen) < 4 {
		t.Errorf("just %d numbers of bits", len(seen))
	}
}

func TestP12_4Marks(t *testing.T) {
	for _, mark := range []string{blockDigits, endDigits} {
		for i := range mark {
			other := []byte(mark)
			other[i] ^= 1
			checkTold(t, "another mark", string(other), api.ErrForm)
			checkFails(t, "another mark at first", bytesOf(headDigits(9)+string(other)), api.ErrForm)
		}
	}
	checkTold(t, "noughts", strings.Repeat("0", 48), api.ErrForm)
	checkTold(t, "half of each", blockDigits[:24]+endDigits[24:], api.ErrForm)
	checkTold(t, "half of each", endDigits[:24]+blockDigits[24:], api.ErrForm)
	checkTold(t, "another mark behind a block", banana().digits()+strings.Repeat("1", 48), api.ErrForm)
}

func TestP12_4BitBehindTheSum(t *testing.T) {
	b := banana()
	checkTold(t, "the bit", b.mark+b.sum+"1", api.ErrKind)
	b.mixed = "1"
	checkFails(t, "a whole block", streamOf(1, b), api.ErrKind)
	b.used, b.tables = strings.Repeat("0", 16), "111"
	checkFails(t, "ahead of others", streamOf(1, b), api.ErrKind)
}

func TestP12_4BytesThatCome(t *testing.T) {
	b := banana()
	ahead := b.mark + b.sum + b.mixed + b.row
	none := strings.Repeat("0", 16)
	checkTold(t, "no group", ahead+none, api.ErrForm)
	for i := range 16 {
		group := none[:i] + "1" + none[i+1:]
		checkTold(t, "one group, of which none comes", ahead+group+none, api.ErrForm)
		checkLacks(t, "one group alone", ahead+group)
	}
	all := strings.Repeat("1", 16)
	checkTold(t, "all groups, of which none comes", ahead+all+strings.Repeat(none, 16), api.ErrForm)
	for i := range 256 { // groups of which none comes, beside one that does
		text := []byte{byte(i), byte(i), byte(i)}
		b := contentOf(text).plain()
		b.used = all + strings.Repeat("0", i) + "1" + strings.Repeat("0", 255-i)
		checkTells(t, "empty groups", streamOf(1, b), string(text))
	}
}

// Which bytes come is what the block says, also those that its text does not have.
func TestP12_4BytesThatDoNotCome(t *testing.T) {
	for _, used := range [][]byte{all256(), []byte("abcn"), []byte("\x00abn\xff")} {
		column := []byte("nnbaaa")
		list := slices.Clone(used)
		var places []int
		for _, c := range column {
			at := bytes.IndexByte(list, c)
			places = append(places, at)
			list = slices.Insert(slices.Delete(list, at, at+1), 0, c)
		}
		symbols, _ := runs.Symbols(places, len(used))
		c := content{crcByWords([]byte("banana")), 3, used, symbols}
		checkTells(t, "more bytes", streamOf(1, c.plain()), "banana")
	}
}

func TestP12_4CountOfTables(t *testing.T) {
	r := rand.New(rand.NewSource(129))
	b := banana()
	ahead := b.mark + b.sum + b.mixed + b.row + b.used
	for _, count := range []int{0, 1, 7} {
		checkTold(t, "tables", ahead+digits(count, 3), api.ErrForm)
		b.tables = digits(count, 3)
		checkFails(t, "tables", streamOf(1, b), api.ErrForm)
	}
	for count := 2; count <= 6; count++ {
		for range 20 {
			checkTells(t, "tables", streamOf(1, contentOf([]byte("banana")).mixed(r, count)), "banana")
		}
	}
}

func TestP12_4Selectors(t *testing.T) {
	b := banana()
	ahead := b.mark + b.sum + b.mixed + b.row + b.used
	for count := 2; count <= 6; count++ {
		tables := digits(count, 3)
		checkTold(t, "no selector", ahead+tables+digits(0, 15), api.ErrForm)
		for _, n := range []int{1, 2, 32767} {
			told := ahead + tables + digits(n, 15)
			checkLacks(t, "selectors lack", told)
			checkTold(t, "as many as there are tables", told+strings.Repeat("1", count), api.ErrForm)
			checkLacks(t, "the last table", told+strings.Repeat("1", count-1))
			checkLacks(t, "the last table", told+strings.Repeat("1", count-1)+"0")
		}
		told := ahead + tables + digits(4, 15)
		for _, chosen := range [][]int{{0}, {1}, {count - 1}, {count - 1, 0}, {1, 0, 1}} {
			checkTold(t, "the next one is none", told+selectorDigits(chosen)+strings.Repeat("1", count), api.ErrForm)
		}
	}
	for _, more := range []int{1, 2, 7, 300, 32766} { // more of them than the symbols need
		c := contentOf([]byte("banana"))
		lengths := chain(5)
		for _, other := range []int{0, 1} {
			chosen := append([]int{0}, slices.Repeat([]int{other}, more)...)
			checkTells(t, "too many selectors", streamOf(1, c.write([][]int{lengths, {2, 2, 2, 3, 3}}, chosen)), "banana")
		}
	}
}

// Each 50 symbols have the table that is chosen: all ways to choose three times of two to six tables.
func TestP12_4ChosenTables(t *testing.T) {
	r := rand.New(rand.NewSource(130))
	text := letters(r, 140, 97, 12)
	c := contentOf(text)
	if c.selectors() != 3 {
		t.Fatalf("%d symbols", len(c.symbols))
	}
	for count := 2; count <= 6; count++ {
		var tables [][]int
		for range count {
			tables = append(tables, someLengths(r, len(c.used)+2))
		}
		for way := range count * count * count {
			chosen := []int{way % count, way / count % count, way / count / count}
			checkTells(t, "chosen", streamOf(3, c.write(tables, chosen)), string(text))
		}
	}
}

// A length is looked at ahead of each bit that says whether to go on.
func TestP12_4Lengths(t *testing.T) {
	b := banana()
	ahead := b.aheadOfTables()
	good := tableByWords([]int{1, 2, 3, 4, 4})
	for _, before := range []string{ahead, ahead + good} {
		for _, first := range []int{0, 21, 22, 30, 31} {
			checkTold(t, "first length", before+digits(first, 5), api.ErrForm)
		}
		for first := 1; first <= 20; first++ {
			checkLacks(t, "first length", before+digits(first, 5))
			up, down := strings.Repeat("10", 20-first), strings.Repeat("11", first-1)
			for _, symbols := range []string{"", "0", "00", "0000"} {
				checkLacks(t, "up to 20", before+digits(first, 5)+symbols+up)
				checkLacks(t, "down to 1", before+digits(first, 5)+symbols+down)
				checkTold(t, "up to 21", before+digits(first, 5)+symbols+up+"10", api.ErrForm)
				checkTold(t, "down to 0", before+digits(first, 5)+symbols+down+"11", api.ErrForm)
			}
		}
	}
	checkFails(t, "up to 21, and back", bytesOf(headDigits(1)+ahead+digits(20, 5)+"1011"+"0"+strings.Repeat("0", 200)), api.ErrForm)
	checkFails(t, "down to 0, and back", bytesOf(headDigits(1)+ahead+digits(1, 5)+"1110"+"0"+strings.Repeat("0", 200)), api.ErrForm)
}

// Any way to a length will do that stays from 1 to 20.
func TestP12_4WaysToLengths(t *testing.T) {
	b := contentOf([]byte("banana")).write([][]int{{1, 2, 3, 4, 4}, {3, 3, 2, 2, 2}}, []int{1})
	up, down := strings.Repeat("10", 19), strings.Repeat("11", 19)
	for _, table := range []string{
		digits(20, 5) + strings.Repeat("11", 17) + "0" + "0" + "110" + "0" + "0",
		digits(1, 5) + "10" + "10" + "0" + "0" + "110" + "0" + "0",
		digits(1, 5) + up + down + "10" + "10" + "0" + "0" + "110" + "0" + "0",
		digits(3, 5) + "1110111011100" + "0" + "110" + "0" + "11" + strings.Repeat("10", 19) + strings.Repeat("11", 18) + "0",
	} {
		b.lengths[1] = table
		checkTells(t, "another way", streamOf(1, b), "banana")
	}
	for _, c := range []struct {
		letters int
		tables  [][]int
	}{{1, [][]int{{1, 2, 2}, {2, 2, 1}}}, {2, [][]int{{2, 2, 2, 2}, chain(4)}}, {19, [][]int{chain(21), chain(21)}}} {
		r := rand.New(rand.NewSource(131))
		text := append(letters(r, 900, 97, c.letters), all256()[97:97+c.letters]...)
		packed := contentOf(text)
		if len(packed.used) == c.letters { // runs' numbers may be bytes, too
			checkTells(t, "the shortest and the longest", streamOf(1, packed.write(c.tables, make([]int, packed.selectors()))), string(text))
		}
	}
}

// All lengths are read ahead of any code that is made of them.
func TestP12_4Codes(t *testing.T) {
	c := contentOf([]byte("banana"))
	good := []int{1, 2, 3, 4, 4}
	for _, bad := range [][]int{{1, 2, 3, 4, 5}, {1, 2, 3, 3, 4}, {1, 1, 1, 1, 1}, {1, 1, 2, 2, 2}, {20, 20, 20, 20, 20}, {3, 3, 3, 3, 3}, {1, 2, 3, 4, 3}, {2, 2, 2, 3, 4}, {1, 2, 3, 4, 20}} {
		for count := 2; count <= 6; count++ {
			for at := range count {
				tables := slices.Repeat([][]int{good}, count)
				tables[at] = bad
				b := c.write(tables, []int{(at + 1) % count})
				checkTold(t, "no code, though it is not chosen", b.ahead(), api.ErrCode)
				checkFails(t, "a whole stream", streamOf(1, b), api.ErrCode)
				if at == count-1 {
					continue
				}
				b.lengths[count-1] = digits(21, 5)
				checkTold(t, "a later table has another length", b.ahead(), api.ErrForm)
				b.lengths[count-1] = ""
				checkLacks(t, "a later table lacks", b.ahead())
			}
		}
	}
}

// Behind the last selector's 50 symbols no other one is read.
func TestP12_4NoSelectorLeft(t *testing.T) {
	lengths := []int{2, 2, 2, 2}
	for _, count := range []int{1, 2, 3} {
		c := content{0, 0, []byte("ab"), slices.Repeat([]int{2}, 50*count)}
		b := c.write([][]int{lengths, lengths}, make([]int, count))
		checkTold(t, "no selector left", b.digits(), api.ErrForm)
		c.symbols[50*count-1] = 3 // the end is the last one that a selector is there for
		text := unturned(c)
		c.sum = crcByWords(text)
		checkTells(t, "the end is just in time", streamOf(1, c.write([][]int{lengths, lengths}, make([]int, count))), string(text))
	}
	r := rand.New(rand.NewSource(132))
	seen := map[int]bool{}
	for size := 1; size < 400; size++ { // of real texts: one selector too few
		text := letters(r, size, 97, 20)
		c := contentOf(text)
		lengths := lengthsByWords(c.symbols, len(c.used))
		tables := [][]int{lengths, lengths}
		n := c.selectors()
		seen[len(c.symbols)%50] = true
		checkTells(t, "just enough selectors", streamOf(1, c.write(tables, make([]int, n))), string(text))
		if n > 1 {
			checkFails(t, "one too few", streamOf(1, c.write(tables, make([]int, n-1))), api.ErrForm)
		}
	}
	if !seen[0] || !seen[1] || !seen[49] {
		t.Error("no text has a multiple of 50 symbols, or one more, or one less")
	}
}

// What Places tells is told when the end was read.
func TestP12_4Places(t *testing.T) {
	lengths := []int{1, 2, 3, 3}
	tables := [][]int{lengths, lengths}
	blockOf := func(symbols ...int) block {
		return content{0, 0, []byte("ab"), symbols}.write(tables, make([]int, 1+len(symbols)/50))
	}
	for n := 20; n < 25; n++ {
		noughts := make([]int, n)
		b := blockOf(append(noughts, 2)...)
		if n > 20 {
			checkLacks(t, "a run's 21st symbol, but no end", b.digits())
			checkTold(t, "a run's 21st symbol", blockOf(append(noughts, 2, 3)...).digits(), api.ErrForm)
		} else {
			checkLacks(t, "too many places, but no end", b.digits())
			checkTold(t, "too many places", blockOf(append(noughts, 2, 3)...).digits(), api.ErrBig)
		}
	}
	big := slices.Repeat([]int{1}, 17)
	checkTold(t, "too many places, then a run's 21st symbol", blockOf(slices.Concat(big, []int{2}, make([]int, 21), []int{3})...).digits(), api.ErrBig)
	checkTold(t, "a run's 21st symbol, then too many places", blockOf(slices.Concat(make([]int, 21), []int{2}, big, []int{3})...).digits(), api.ErrForm)
	checkTold(t, "too many places, and no selector left", content{0, 0, []byte("ab"), append(big, slices.Repeat([]int{2}, 33)...)}.write(tables, []int{0}).digits(), api.ErrForm)
}

// unturned is the text of what a block says.
func unturned(c content) []byte {
	places, _ := runs.Places(c.symbols, len(c.used), 1<<20)
	column, _ := runs.Unfront(c.used, places)
	packed, _ := suffix.Back(column, c.row)
	text, _ := runs.Unpack(packed, api.MaxBytes)
	return text
}

// A block has at most 100000 times the level of bytes, more than Make takes.
func TestP12_4BlocksOfEachLevel(t *testing.T) {
	for _, level := range []int{1, 2, 9} {
		most := 100000 * level
		text := unlike(most + 1)
		fits, tooMany := contentOf(text[:most]).plain(), contentOf(text).plain()
		checkTells(t, "just enough", streamOf(level, fits), string(text[:most]))
		checkFails(t, "one too many", streamOf(level, tooMany), api.ErrBig)
		if level > 1 {
			checkFails(t, "a lesser level", streamOf(level-1, fits), api.ErrBig)
		}
		if level < 9 {
			checkTells(t, "a higher level", streamOf(level+1, tooMany), string(text))
		}
	}
	for _, more := range []int{0, 1} { // one run of places 0: the text is "aaaa" and "a", as a number, over and over
		places, _ := runs.Symbols(make([]int, 100000+more), 1)
		text, _ := runs.Unpack(bytes.Repeat([]byte("a"), 100000), api.MaxBytes)
		b := content{crcByWords(text), 99999, []byte("a"), places}.plain()
		if more == 0 {
			checkTells(t, "a long run", streamOf(1, b), string(text))
		} else {
			checkFails(t, "a run that is too long", streamOf(1, b), api.ErrBig)
		}
	}
}

func TestP12_4Row(t *testing.T) {
	for _, text := range []string{"a", "ab", "banana", "mississippi", strings.Repeat("ab", 40), string(all256())} {
		c := contentOf([]byte(text))
		n := len(text)
		for _, row := range []int{n, n + 1, 2 * n, 1<<23 + n - 1, 1<<24 - 1} {
			c.row = row
			checkFails(t, "no row", streamOf(1, c.plain()), api.ErrForm)
			checkTold(t, "no row", c.plain().digits(), api.ErrForm)
		}
		for row := range n { // a row that is another text's
			c.row = row
			checkModel(t, streamOf(1, c.plain()), 999)
			packed := contentOfColumn(columnOf([]byte(text)), row)
			if e := checkModel(t, streamOf(1, packed.plain()), 9999); e != api.OK && e != api.ErrEnd {
				t.Errorf("row %d of %q: %v", row, text, e)
			}
		}
	}
	none := content{0, 0, []byte("a"), []int{2}} // no place: not even 0 is a row
	checkTold(t, "no row at all", none.write([][]int{{2, 2, 1}, {2, 2, 1}}, []int{0}).digits(), api.ErrForm)
}

func columnOf(text []byte) []byte {
	c := contentOfPacked(text)
	places, _ := runs.Places(c.symbols, len(c.used), len(text))
	column, _ := runs.Unfront(c.used, places)
	return column
}

// Of a column that no text has something is told, too.
func TestP12_4AnyColumn(t *testing.T) {
	r := rand.New(rand.NewSource(133))
	for range 1000 {
		column := letters(r, 1+r.Intn(40), 97, 1+r.Intn(4))
		c := contentOfColumn(column, r.Intn(len(column)))
		checkModel(t, streamOf(1, c.mixed(r, 2+r.Intn(5))), 1+r.Intn(9999))
	}
}

func TestP12_4Unpack(t *testing.T) {
	for _, text := range []string{"aaaa", "baaaa", "bbbb\x05aaaa", "aaaa\x00bbbb"} {
		b := contentOfPacked([]byte(text)).plain()
		checkTold(t, "no number", b.digits(), api.ErrEnd)
		checkFails(t, "no number", streamOf(1, b), api.ErrEnd)
	}
	b := contentOfPacked([]byte("aaaa\xffb")).plain()
	text := strings.Repeat("a", 259) + "b"
	for most := range 263 {
		if most < 260 {
			check(t, "too few", streamOf(1, b), most, nil, api.ErrBig)
		} else {
			check(t, "enough", streamOf(1, b), most, []byte(text), api.OK)
		}
	}
	lacks := streamOf(1, contentOfPacked([]byte("baaaa")).plain())
	for most, want := range []api.Errno{api.ErrBig, api.ErrBig, api.ErrBig, api.ErrBig, api.ErrBig, api.ErrEnd, api.ErrEnd} {
		check(t, "too few, and no number", lacks, most, nil, want)
	}
	for _, packed := range []string{"aaaa\x00aaaa\x00", "aaaa\x00a", "aabbaa", "aaaa\x61aaaa\x01b", "aaab"} { // what Pack never writes
		c := contentOfPacked([]byte(packed))
		text, _ := runs.Unpack([]byte(packed), 999)
		checkTells(t, "another form", streamOf(1, c.plain()), string(text))
	}
}

func TestP12_4Sums(t *testing.T) {
	b, other := banana(), contentOf([]byte("zzzzz")).plain()
	for i := range 32 {
		wrong := b
		wrong.sum = flip(b.sum, i)
		checkTold(t, "a block's sum", wrong.digits(), api.ErrSum)
		checkFails(t, "a block's sum", streamOf(1, wrong), api.ErrSum)
		checkFails(t, "a later block's sum", streamOf(1, other, wrong), api.ErrSum)
		for _, l := range [][]block{{}, {b}, {b, other}, {b, b, b}} {
			s := headDigits(1)
			for _, x := range l {
				s += x.digits()
			}
			checkFails(t, "a stream's sum", bytesOf(s+flip(endOf(l...), 48+i)), api.ErrSum)
		}
	}
	s := headDigits(1) + b.digits() + other.digits()
	checkFails(t, "sums in another order", bytesOf(s+endOf(other, b)), api.ErrSum)
	checkFails(t, "the last block's sum alone", bytesOf(s+endOf(other)), api.ErrSum)
	checkFails(t, "no block's sum", bytesOf(s+endOf()), api.ErrSum)
	checkTells(t, "their sums", bytesOf(s+endOf(b, other)), "bananazzzzz")
	whole := bytesOf(s + endOf(b, other))
	second := bytesOf(headDigits(1) + b.digits() + endOf(b, other, b)) // as if it went on from one stream to the next
	checkFails(t, "a stream's sum begins anew", slices.Concat(whole, second), api.ErrSum)
	checkTells(t, "a stream's sum begins anew", slices.Concat(whole, streamOf(2, b)), "bananazzzzzbanana")
	checkFails(t, "a sum of no block", []byte("BZh9\x17\x72\x45\x38\x50\x90\x00\x00\x00\x01"), api.ErrSum)
}

// flip turns one digit about.
func flip(s string, at int) string {
	b := []byte(s)
	b[at] ^= 1
	return string(b)
}

// Where two errors would fit, the first one is told.
func TestP12_4ErrorsInOrder(t *testing.T) {
	lengths := []int{1, 2, 3, 3}
	bad := []int{1, 1, 3, 3}
	tables := [][]int{lengths, lengths}
	big := append(slices.Repeat([]int{1}, 17), 3) // 2^18 - 2 places
	long := append(make([]int, 21), 3)
	fours := content{7, 0, []byte("ab"), nil} // of "aaaa" the number lacks
	fours.symbols, _ = runs.Symbols([]int{0, 0, 0, 0}, 2)
	right := contentOf([]byte("ab"))
	for _, c := range []struct {
		name   string
		say    content
		tables [][]int
		change func(b *block)
		most   int
		want   api.Errno
	}{
		{"the bit, no byte, no table", right, tables, func(b *block) { b.mixed, b.used, b.tables = "1", strings.Repeat("0", 16), "000" }, 99, api.ErrKind},
		{"a bad table, no selector left", content{0, 0, []byte("ab"), make([]int, 51)}, [][]int{lengths, bad}, func(b *block) { b.count, b.selectors = digits(1, 15), "0" }, 99, api.ErrCode},
		{"a bad table, a bad length behind it", right, [][]int{bad, lengths}, func(b *block) { b.lengths[1] = digits(0, 5) }, 99, api.ErrForm},
		{"a bad length, a bad table behind it", right, [][]int{lengths, bad}, func(b *block) { b.lengths[0] = digits(0, 5) }, 99, api.ErrForm},
		{"a bad table, too many places", content{0, 0, []byte("ab"), big}, [][]int{lengths, bad}, nil, 99, api.ErrCode},
		{"too many places, no row", content{0, 1 << 23, []byte("ab"), big}, tables, nil, 99, api.ErrBig},
		{"a 21st symbol, no row", content{0, 1 << 23, []byte("ab"), long}, tables, nil, 99, api.ErrForm},
		{"no row, no number", fours, tables, func(b *block) { b.row = digits(4, 24) }, 99, api.ErrForm},
		{"no row, too few", right, tables, func(b *block) { b.row = digits(2, 24) }, 0, api.ErrForm},
		{"no number, another sum", fours, tables, nil, 99, api.ErrEnd},
		{"too few, no number", fours, tables, nil, 3, api.ErrBig},
		{"too few, another sum", right, tables, func(b *block) { b.sum = flip(b.sum, 0) }, 1, api.ErrBig},
		{"another sum", right, tables, func(b *block) { b.sum = flip(b.sum, 0) }, 2, api.ErrSum},
	} {
		b := c.say.write(c.tables, make([]int, c.say.selectors()))
		if c.change != nil {
			c.change(&b)
		}
		check(t, c.name, streamOf(1, b), c.most, nil, c.want)
		check(t, c.name+", another mark behind it", bytesOf(headDigits(1)+b.digits()+strings.Repeat("1", 48)), c.most, nil, c.want)
		check(t, c.name+", another sum behind it", bytesOf(headDigits(1)+b.digits()+flip(endOf(b), 50)), c.most, nil, c.want)
		check(t, c.name+", no stream behind it", append(streamOf(1, b), "none"...), c.most, nil, c.want)
	}
	check(t, "a stream's sum, no stream behind it", append(bytesOf(headDigits(1)+endDigits+digits(1, 32)), "none"...), 0, nil, api.ErrSum)
	check(t, "no stream behind, too few", append(mustMake("ab", 1), "none"...), 2, nil, api.ErrForm)
}

// samples are streams of many kinds.
func samples() [][]byte {
	r := rand.New(rand.NewSource(134))
	a, b := contentOf([]byte("mississippi")), contentOf(letters(r, 120, 97, 5))
	return [][]byte{
		mustMake("", 9), mustMake("a", 1), mustMake("banana", 2), mustMake(strings.Repeat("z", 300), 9), mustMake(string(letters(r, 90, 0, 256)), 3),
		streamOf(1, a.mixed(r, 2)), streamOf(1, a.mixed(r, 6)), streamOf(4, b.mixed(r, 3)), streamOf(4, a.mixed(r, 2), b.mixed(r, 5)),
		slices.Concat(mustMake("ab", 1), streamOf(8, a.mixed(r, 3)), mustMake("", 1)),
	}
}

// Each bit turned about by itself: what is told is what the words say, mostly an error.
func TestP12_4BitsThatAreChanged(t *testing.T) {
	seen := map[api.Errno]int{}
	for _, b := range samples() {
		for i := range 8 * len(b) {
			other := slices.Clone(b)
			other[i/8] ^= 128 >> (i % 8)
			seen[checkModel(t, other, 500)]++
		}
	}
	for _, e := range []api.Errno{api.ErrEnd, api.ErrForm, api.ErrSum, api.ErrCode, api.ErrKind} {
		if seen[e] == 0 {
			t.Errorf("none told %v", e)
		}
	}
}

// Bits that are taken out, put in, or cut off.
func TestP12_4BitsThatAreMoved(t *testing.T) {
	r := rand.New(rand.NewSource(135))
	for _, b := range samples() {
		s := digitsOf(b)
		for range 250 {
			at, to := r.Intn(len(s)), r.Intn(len(s))
			checkModel(t, bytesOf(s[:at]+s[at+1:]), 500)
			checkModel(t, bytesOf(s[:at]+strconv.Itoa(r.Intn(2))+s[at:]), 500)
			checkModel(t, bytesOf(s[:at]+s[to:]), 500)
			checkModel(t, bytesOf(flip(flip(s, at), to)), r.Intn(500))
		}
	}
}

// Fields of any numbers, most of them near to those that may be.
func TestP12_4AnyFields(t *testing.T) {
	r := rand.New(rand.NewSource(136))
	seen := map[api.Errno]int{}
	for range 6000 {
		c := contentOf(letters(r, 1+r.Intn(130), 97, 1+r.Intn(6)))
		b := c.mixed(r, 2+r.Intn(5))
		for range 1 + r.Intn(2) {
			b = changed(r, b, c)
		}
		seen[checkModel(t, streamOf(1+r.Intn(9), b), r.Intn(300))]++
	}
	for _, e := range []api.Errno{api.OK, api.ErrEnd, api.ErrForm, api.ErrSum, api.ErrCode, api.ErrKind, api.ErrBig} {
		if seen[e] == 0 {
			t.Errorf("none told %v", e)
		}
	}
}

// changed is a block of which one field is another.
func changed(r *rand.Rand, b block, c content) block {
	b.lengths = slices.Clone(b.lengths)
	at := r.Intn(len(b.lengths))
	lengths := someLengths(r, len(c.used)+2)
	switch r.Intn(10) {
	case 0:
		b.sum = flip(b.sum, r.Intn(32))
	case 1:
		b.mixed = strconv.Itoa(r.Intn(2))
	case 2:
		b.row = digits(r.Intn(200), 24)
	case 3:
		b.used = flip(b.used, r.Intn(len(b.used)))
	case 4:
		b.tables = digits(r.Intn(8), 3)
	case 5:
		b.count = digits(r.Intn(5), 15)
	case 6:
		b.selectors = strings.Repeat("1", r.Intn(7)) + b.selectors
	case 7:
		b.lengths[at] = flip(b.lengths[at], r.Intn(len(b.lengths[at])))
	case 8:
		lengths[r.Intn(len(lengths))] = 1 + r.Intn(20)
		b.lengths[at] = tableByWords(lengths)
	case 9:
		b.symbols = flip(b.symbols, r.Intn(len(b.symbols)))
	}
	return b
}

func TestP12_4AnyBytes(t *testing.T) {
	r := rand.New(rand.NewSource(137))
	mark := bytesOf(blockDigits)
	for range 20_000 {
		rest := letters(r, r.Intn(40), 0, 256)
		checkModel(t, rest, 99)
		checkModel(t, slices.Concat([]byte("BZh9"), mark, []byte{1, 2, 3, 4, 0, 0, 0, byte(r.Intn(2))}, rest), 99)
	}
}

// Many streams that no call made: several tables, each another, that change.
func TestP12_4ManyStreams(t *testing.T) {
	r := rand.New(rand.NewSource(138))
	for range 400 {
		var all, text []byte
		for range 1 + r.Intn(3) {
			var l []block
			for range r.Intn(4) {
				piece := append(someText(r), 'x')
				l = append(l, contentOf(piece).mixed(r, 2+r.Intn(5)))
				text = append(text, piece...)
			}
			all = append(all, streamOf(1+r.Intn(9), l...)...)
		}
		check(t, "streams", all, len(text), text, api.OK)
		if len(text) > 0 {
			check(t, "streams, one too few", all, len(text)-1, nil, api.ErrBig)
		}
		checkLibrary(t, all, text)
	}
}

// What others (libbz2) made: with six tables that change, and of two blocks, of which the first one just fills the room that Make takes.
func TestP12_4StreamsOfOthers(t *testing.T) {
	var numbers []string
	for i := range 900 {
		numbers = append(numbers, strconv.Itoa(i))
	}
	checkTells(t, "numbers", fromHex(numbersOfOthers), strings.Join(numbers, " "))
	blocks := fromHex("425a6831314159265359f14b8b270061a30100300020003080291942505aa1282e6282b24ca6b35b83225400271902006000400041481064a151a285471772453850904f568765")
	checkTells(t, "blocks", blocks, strings.Repeat("ab", 60000))
	checkTells(t, "both", slices.Concat(blocks, fromHex(numbersOfOthers)), strings.Repeat("ab", 60000)+strings.Join(numbers, " "))
	checkTells(t, "banana", fromHex("425a6831314159265359efb6ec0100000181003001200030cc0c7a885e2ee48a70a121df6dd802"), "banana")
}

const numbersOfOthers = "" +
	"425a68393141592653590abd07c80001c1980040007fe06007b80000797892489248924504034d34100d34d045301ef54a0d22999fea54864d30ffd42a100d34d18bac6b7cefa2e3001e3203a3407036" +
	"0d8381a03a3203c60022800f299011800f1901d1a0381b06c1c0d01d1901e300114007546808c0078c80e8d01c0d8360e0680e8c80f18008a0038a1b046003c64074680e06c1b0703407464078c00450" +
	"01b507023001e3203a34070360d8381a03a3203c60022800d281d11800f1901d1a0381b06c1c0d01d1901e300114006540788c0078c80e8d01c0d8360e0680e8c80f18008a0030a0111800f1901d1a03" +
	"81b06c1c0d01d1901e30011400500028011800f1901d1a0381b06c1c0d01d1901e54924927bde0000000000000000059c492492edb71b6db6b65e6da0f1901d1a0381b06c1c0d5b6dbcb3eb6db6d4c8d" +
	"00ecc8d00ecc8d00ecc8d00ecc8d00ecc8d00ecc8d00ecc8d00ecc8d00ecc9f5bab6db7e4500bbbbbabbbbbb11800f1901d1a0381b06c1c54b01eafaa624924766436072643607264360726436072643" +
	"60726436072643607264369249dafaac6416f18008a02eeeeeeaeeeec23001e3203a3407036a8fadb6de4c86c0e4c86c0e4c83f03d9907e07b320fc0f6641f81ecc83f03dafaa49a9249cafaa49a9249" +
	"cafaac3416e8c80f18008a05ddddddd5ddd823001e3203a34a9258395f54935249395f5493503d9907e07b320781e4c81e079320781e4c81e079320781e4c81e079327c0d8b703407464078c004505dd" +
	"dddddd5dd811800f195492586eb20781e4c81e079320781e4c81e0793203d1fa6407a3f4c80f47e9901ea4d57d52493924d57d56070b6c1b0703407464078c00450bbbbbbbbbabb16dabab01f5b7f4c8" +
	"0f47e9901e8fd3203d1fa6407a3f4c80f47e9900e1b9900e1b9900e1b9900e1b993eb6db6f2fcd01c0d8360e0680e8c80f18008a2eeeeeeeeeeaea4924b335f549249d8dcc8070dcc8070dcc8070dcc8" +
	"070dcc8070dcc803ad4c803ad4c8124f4c57d5601eb64074680e06c1b0703407464078c00452f0b6db5753200eb53200eb53200eb53200eb53200eb53200eb53200eb532003320024cbf7df7df7df7df" +
	"76dddb6db794d01c0d8360e0680e8c80edbab6db6d59403e000000000000000000801fc5dc914e142402af41f200"
