package inflate_test

import (
	"sort"
	"strings"

	"hamper/api"
	"hamper/token"
)

// The symbols of lengths and of distances as RFC 1951 lists them: the least, and how many bits go with it.
var (
	listedLengths = [][2]int{
		{3, 0}, {4, 0}, {5, 0}, {6, 0}, {7, 0}, {8, 0}, {9, 0}, {10, 0}, {11, 1}, {13, 1}, {15, 1}, {17, 1}, {19, 2}, {23, 2}, {27, 2},
		{31, 2}, {35, 3}, {43, 3}, {51, 3}, {59, 3}, {67, 4}, {83, 4}, {99, 4}, {115, 4}, {131, 5}, {163, 5}, {195, 5}, {227, 5}, {258, 0},
	}
	listedDistances = [][2]int{
		{1, 0}, {2, 0}, {3, 0}, {4, 0}, {5, 1}, {7, 1}, {9, 2}, {13, 2}, {17, 3}, {25, 3}, {33, 4}, {49, 4}, {65, 5}, {97, 5}, {129, 6},
		{193, 6}, {257, 7}, {385, 7}, {513, 8}, {769, 8}, {1025, 9}, {1537, 9}, {2049, 10}, {3073, 10}, {4097, 11}, {6145, 11},
		{8193, 12}, {12289, 12}, {16385, 13}, {24577, 13},
	}
	listedOrder = []int{16, 17, 18, 0, 8, 7, 9, 6, 10, 5, 11, 4, 12, 3, 13, 2, 14, 1, 15}
)

// many is a list of one number, so many times.
func many(v, times int) []int {
	l := make([]int, times)
	for i := range l {
		l[i] = v
	}
	return l
}

// joined is lists one behind the other.
func joined(lists ...[]int) []int {
	var all []int
	for _, l := range lists {
		all = append(all, l...)
	}
	return all
}

func fixedLengths() []int { return joined(many(8, 144), many(9, 112), many(7, 24), many(8, 8)) }

// digitsOf tells a number's n digits to the base 2, the highest first.
func digitsOf(v, n int) string {
	s := ""
	for range n {
		s = string(rune('0'+v%2)) + s
		v /= 2
	}
	return s
}

// lowFirst tells a number's n bits as they are read: the lowest first.
func lowFirst(v, n int) string {
	s := ""
	for range n {
		s += string(rune('0' + v%2))
		v /= 2
	}
	return s
}

// wordsOf tells each symbol's word as digits (none: ""), by the document's words for canonical codes.
func wordsOf(lengths []int) []string {
	var symbols []int
	for s, n := range lengths {
		if n > 0 {
			symbols = append(symbols, s)
		}
	}
	sort.SliceStable(symbols, func(i, j int) bool { return lengths[symbols[i]] < lengths[symbols[j]] })
	words := make([]string, len(lengths))
	next, at := 0, 0
	for _, s := range symbols {
		for ; at < lengths[s]; at++ {
			next *= 2
		}
		words[s] = digitsOf(next, at)
		next++
	}
	return words
}

// isCode is whether lengths are a full code; loose: or no word, or one of length 1 alone.
func isCode(lengths []int, loose bool) bool {
	sum, words, last := 0, 0, 0
	for _, n := range lengths {
		if n > 0 {
			sum += 1 << (20 - n)
			words++
			last = n
		}
	}
	return sum == 1<<20 || loose && (words == 0 || words == 1 && last == 1)
}

// book tells words' symbols, and which digits begin a word.
type book struct {
	symbols map[string]int
	begins  map[string]bool
}

func bookOf(lengths []int) book {
	b := book{map[string]int{}, map[string]bool{}}
	for s, w := range wordsOf(lengths) {
		if w == "" {
			continue
		}
		b.symbols[w] = s
		for i := range len(w) + 1 {
			b.begins[w[:i]] = true
		}
	}
	return b
}

// The fixed code's books and words, made once for all tests.
var (
	fixedBook      = bookOf(fixedLengths())
	fixedDistances = bookOf(many(5, 32))
	fixedWords     = wordsOf(fixedLengths())
)

// model reads packed bytes by the document's words alone, digit by digit.
type model struct {
	digits string
	at     int
	most   int
	length int // of all that came out
	tokens []api.Token
}

// gaveUp is what the model's steps panic with.
type gaveUp struct{ e api.Errno }

func (m *model) fail(e api.Errno) { panic(gaveUp{e}) }

func (m *model) digit() string {
	if m.at == len(m.digits) {
		m.fail(api.ErrEnd)
	}
	m.at++
	return m.digits[m.at-1 : m.at]
}

func (m *model) number(n int) int {
	v := 0
	for i := range n {
		if m.digit() == "1" {
			v += 1 << i
		}
	}
	return v
}

func (m *model) word(b book) int {
	read := ""
	for {
		read += m.digit()
		if !b.begins[read] {
			m.fail(api.ErrForm)
		}
		if s, ok := b.symbols[read]; ok {
			return s
		}
	}
}

func (m *model) lay(t api.Token) {
	n := max(t.Length, 1)
	if m.length+n > m.most {
		m.fail(api.ErrBig)
	}
	m.length += n
	m.tokens = append(m.tokens, t)
}

func (m *model) read() (used int) {
	for last := 0; last == 0; {
		last = m.number(1)
		switch m.number(2) {
		case 0:
			m.stored()
		case 1:
			m.body(fixedBook, fixedDistances)
		case 2:
			m.own()
		default:
			m.fail(api.ErrKind)
		}
	}
	for m.at%8 != 0 {
		m.at++
	}
	return m.at / 8
}

func (m *model) stored() {
	for m.at%8 != 0 {
		m.at++
	}
	n := m.number(16)
	if m.number(16) != 65535-n {
		m.fail(api.ErrForm)
	}
	if m.length+n > m.most {
		m.fail(api.ErrBig)
	}
	if 8*n > len(m.digits)-m.at {
		m.fail(api.ErrEnd)
	}
	for range n {
		m.lay(api.Token{Byte: byte(m.number(8))})
	}
}

func (m *model) own() {
	l := 257 + m.number(5)
	d := 1 + m.number(5)
	k := 4 + m.number(4)
	if l > 286 || d > 30 {
		m.fail(api.ErrForm)
	}
	inner := many(0, 19)
	for i := range k {
		inner[listedOrder[i]] = m.number(3)
	}
	if !isCode(inner, false) {
		m.fail(api.ErrCode)
	}
	lengths := m.lengths(bookOf(inner), l+d)
	if lengths[256] == 0 {
		m.fail(api.ErrForm)
	}
	if !isCode(lengths[:l], true) || !isCode(lengths[l:], true) {
		m.fail(api.ErrCode)
	}
	m.body(bookOf(lengths[:l]), bookOf(lengths[l:]))
}

func (m *model) lengths(by book, count int) []int {
	var lengths []int
	for len(lengths) < count {
		switch s := m.word(by); s {
		case 16:
			n := 3 + m.number(2)
			if len(lengths) == 0 {
				m.fail(api.ErrForm)
			}
			lengths = append(lengths, many(lengths[len(lengths)-1], n)...)
		case 17:
			lengths = append(lengths, many(0, 3+m.number(3))...)
		case 18:
			lengths = append(lengths, many(0, 11+m.number(7))...)
		default:
			lengths = append(lengths, s)
		}
		if len(lengths) > count {
			m.fail(api.ErrForm)
		}
	}
	return lengths
}

func (m *model) body(symbols, distances book) {
	for {
		s := m.word(symbols)
		if s == 256 {
			return
		}
		if s < 256 {
			m.lay(api.Token{Byte: byte(s)})
			continue
		}
		if s > 285 {
			m.fail(api.ErrForm)
		}
		t := api.Token{Length: listedLengths[s-257][0] + m.number(listedLengths[s-257][1])}
		s = m.word(distances)
		if s > 29 {
			m.fail(api.ErrForm)
		}
		t.Distance = listedDistances[s][0] + m.number(listedDistances[s][1])
		if t.Distance > m.length {
			m.fail(api.ErrBack)
		}
		m.lay(t)
	}
}

// answer is all that Inflate tells.
type answer struct {
	out  string
	used int
	e    api.Errno
}

// byWords tells what Inflate must tell, the text made of the tokens by token.Expand.
func byWords(b []byte, most int) (a answer) {
	var digits strings.Builder
	for _, x := range b {
		digits.WriteString(lowFirst(int(x), 8))
	}
	m := &model{digits: digits.String(), most: most}
	defer func() {
		if r := recover(); r != nil {
			a = answer{e: r.(gaveUp).e} // any other panic is a fault of the model
		}
	}()
	used := m.read()
	out, e := token.Expand(nil, m.tokens)
	if e != api.OK {
		panic(e)
	}
	return answer{string(out), used, api.OK}
}

// row is packed bits as digits, in the order in which they are read.
type row struct{ strings.Builder }

func (w *row) low(v, n int) { w.WriteString(lowFirst(v, n)) }

func (w *row) begin(last bool, kind int) {
	if last {
		w.low(1, 1)
	} else {
		w.low(0, 1)
	}
	w.low(kind, 2)
}

// fill goes on to a whole place, by digits that nobody looks at.
func (w *row) fill(digit string) {
	for w.Len()%8 != 0 {
		w.WriteString(digit)
	}
}

func (w *row) plain(b string) {
	for _, x := range []byte(b) {
		w.low(int(x), 8)
	}
}

func (w *row) stored(last bool, b string) {
	w.begin(last, 0)
	w.fill("1")
	w.low(len(b), 16)
	w.low(65535-len(b), 16)
	w.plain(b)
}

// body writes tokens by these lengths, and the block's end.
func (w *row) body(symbols, distances []int, tokens ...api.Token) {
	w.worded(wordsOf(symbols), wordsOf(distances), tokens)
}

func (w *row) worded(s, d []string, tokens []api.Token) {
	for _, t := range tokens {
		if t.Length == 0 {
			w.WriteString(s[t.Byte])
			continue
		}
		w.measured(s[257:], listedLengths, t.Length)
		w.measured(d, listedDistances, t.Distance)
	}
	w.WriteString(s[256])
}

// measured writes the word of the last symbol whose least is not above v, and the bits that are lacking.
func (w *row) measured(words []string, listed [][2]int, v int) {
	i := sort.Search(len(listed), func(i int) bool { return listed[i][0] > v }) - 1
	w.WriteString(words[i])
	w.low(v-listed[i][0], listed[i][1])
}

func (w *row) fixed(last bool, tokens ...api.Token) {
	w.begin(last, 1)
	w.worded(fixedWords, wordsOf(many(5, 32)), tokens)
}

// fixedWords writes a fixed block's beginning and words of its symbols, whatever they are.
func (w *row) fixedWords(last bool, symbols ...int) {
	w.begin(last, 1)
	for _, s := range symbols {
		w.WriteString(fixedWords[s])
	}
}

// step is a symbol by which lengths are told, and the number in the bits that go with it.
type step struct{ symbol, more int }

// counts writes how many lengths come.
func (w *row) counts(l, d, k int) {
	w.low(l-257, 5)
	w.low(d-1, 5)
	w.low(k-4, 4)
}

// inner writes the first k lengths, in their order, of the code by which lengths are told.
func (w *row) inner(lengths []int, k int) {
	for _, s := range listedOrder[:k] {
		w.low(lengths[s], 3)
	}
}

func (w *row) steps(inner []int, steps ...step) {
	words := wordsOf(inner)
	for _, s := range steps {
		w.WriteString(words[s.symbol])
		switch s.symbol {
		case 16:
			w.low(s.more, 2)
		case 17:
			w.low(s.more, 3)
		case 18:
			w.low(s.more, 7)
		}
	}
}

// each is a step for each length.
func each(lengths []int) []step {
	var l []step
	for _, n := range lengths {
		l = append(l, step{n, 0})
	}
	return l
}

// evenInner has a word for each of the 19 symbols.
func evenInner() []int { return joined(many(4, 13), many(5, 6)) }

// own writes a block with its own codes, their lengths one by one.
func (w *row) own(last bool, symbols, distances []int, tokens ...api.Token) {
	w.ownHead(last, len(symbols), len(distances), each(joined(symbols, distances))...)
	w.body(symbols, distances, tokens...)
}

// ownHead writes such a block up to its tokens.
func (w *row) ownHead(last bool, l, d int, steps ...step) {
	w.begin(last, 2)
	w.counts(l, d, 19)
	w.inner(evenInner(), 19)
	w.steps(evenInner(), steps...)
}

// bytes packs the digits, the last byte filled with this one.
func (w *row) bytes(filler string) []byte {
	s := w.String()
	for len(s)%8 != 0 {
		s += filler
	}
	b := make([]byte, len(s)/8)
	for i := range s {
		if s[i] == '1' {
			b[i/8] |= 1 << (i % 8)
		}
	}
	return b
}

// packed is the bytes of what is written.
func packed(write func(w *row)) []byte {
	w := &row{}
	write(w)
	return w.bytes("0")
}

func single(c byte) api.Token { return api.Token{Byte: c} }

func piece(length, distance int) api.Token { return api.Token{Length: length, Distance: distance} }

// singles is each byte of a text.
func singles(s string) []api.Token {
	var l []api.Token
	for _, x := range []byte(s) {
		l = append(l, single(x))
	}
	return l
}

// lengthsWith tells a full code's lengths over so many symbols: those that are named have a word, no other has.
func lengthsWith(count int, symbols ...int) []int {
	l := many(0, count)
	for i, s := range symbols {
		l[s] = min(i+1, len(symbols)-1)
	}
	if len(symbols) == 1 {
		l[symbols[0]] = 1
	}
	return l
}
