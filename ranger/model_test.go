package ranger_test

import (
	"math/big"
	"slices"
	"strconv"
	"strings"

	"hamper/api"
)

// The models tell each answer by the document's words alone: whole numbers that are multiplied, divided and cut, a number's bits as digits of a text.

const (
	top    = 1 << 32
	narrow = 1 << 24
)

// The calls that a step may be.
const (
	callBit = iota
	callDirect
	callTree
	callReverse
	callSet
)

// step is a call: of Bit base is the chance, and v the bit.
type step struct {
	call, base, v, n int
	list             []int
}

// digitsOf tells the bits of a number as a text, in the order in which they are written.
func digitsOf(s step) string {
	if s.call == callBit {
		return strconv.Itoa(s.v)
	}
	if s.n == 0 {
		return ""
	}
	text := strconv.FormatInt(int64(s.v), 2)
	text = strings.Repeat("0", s.n-len(text)) + text
	if s.call == callReverse {
		return turned(text)
	}
	return text
}

func turned(text string) string {
	b := []byte(text)
	slices.Reverse(b)
	return string(b)
}

// powerOf2 tells 2^n by doubling, n being small.
func powerOf2(n int) int {
	p := 1
	for ; n > 0; n-- {
		p *= 2
	}
	return p
}

// mayBe is whether a step's arguments may be, with so many chances; reading has no v.
func mayBe(s step, chances int, writing bool) bool {
	switch s.call {
	case callBit:
		return s.base >= 0 && s.base <= chances-1 && (!writing || s.v == 0 || s.v == 1)
	case callDirect:
		return s.n >= 0 && s.n <= 31 && (!writing || s.v >= 0 && s.v <= powerOf2(s.n)-1)
	case callSet:
		return len(s.list) == chances && !slices.ContainsFunc(s.list, func(p int) bool { return p < 31 || p > 2017 })
	}
	if s.base < 0 || s.n < 0 || s.n > 16 || writing && (s.v < 0 || s.v > powerOf2(s.n)-1) {
		return false
	}
	end := new(big.Int).Add(big.NewInt(int64(s.base)), big.NewInt(int64(powerOf2(s.n))))
	return end.Cmp(big.NewInt(int64(chances))) <= 0
}

func evenByWords(n int) []int {
	l := make([]int, n)
	for i := range l {
		l[i] = 1024
	}
	return l
}

func behindBit(p, bit int) int {
	if bit == 0 {
		return p + (2048-p)/32
	}
	return p - p/32
}

// writer is an encoder by the chapter's words. Beside it, exact is the number that all bytes are, to which each bit 1 adds, with no carry to be thought of.
type writer struct {
	chances    []int
	low, width int
	kept       int
	waiting    int
	out        []byte

	lows    []int // low at each byte that was shifted out, ahead of the end
	waits   []int // and how many were waiting then
	exact   *big.Int
	shifted int
}

func newWriter(n int) *writer {
	return &writer{chances: evenByWords(n), width: top - 1, waiting: 1, exact: new(big.Int)}
}

func (w *writer) add(v int) {
	w.low += v
	w.exact.Add(w.exact, big.NewInt(int64(v)))
}

func (w *writer) bit(chance, bit int) {
	b := w.width / 2048 * w.chances[chance]
	if bit == 0 {
		w.width = b
	} else {
		w.add(b)
		w.width -= b
	}
	w.chances[chance] = behindBit(w.chances[chance], bit)
	w.widen()
}

func (w *writer) direct(bit int) {
	w.width /= 2
	if bit == 1 {
		w.add(w.width)
	}
	w.widen()
}

func (w *writer) widen() {
	for w.width < narrow {
		w.width *= 256
		w.lows = append(w.lows, w.low)
		w.waits = append(w.waits, w.waiting)
		w.exact.Mul(w.exact, big.NewInt(256))
		w.shifted++
		w.shift()
	}
}

func (w *writer) shift() {
	if w.low < 0xff000000 || w.low > 0xffffffff {
		carry := w.low / top
		w.out = append(w.out, byte((w.kept+carry)%256))
		for range w.waiting - 1 {
			w.out = append(w.out, byte((255+carry)%256))
		}
		w.kept = w.low / narrow % 256
		w.waiting = 0
	}
	w.waiting++
	w.low = w.low % narrow * 256
}

// bytes tells the bytes twice: step by step, and of the exact number.
func (w *writer) bytes() (byWords, exact []byte) {
	end := *w
	end.out = slices.Clone(w.out)
	for range 5 {
		end.shift()
	}
	return end.out, w.exact.FillBytes(make([]byte, 5+w.shifted))
}

// do is the step by the words.
func (w *writer) do(s step) api.Errno {
	if !mayBe(s, len(w.chances), true) {
		return api.ErrArg
	}
	if s.call == callSet {
		w.chances = slices.Clone(s.list)
		return api.OK
	}
	m := 1
	for _, digit := range digitsOf(s) {
		bit := int(digit - '0')
		switch s.call {
		case callBit:
			w.bit(s.base, bit)
		case callDirect:
			w.direct(bit)
		default:
			w.bit(s.base+m, bit)
			m = 2*m + bit
		}
	}
	return api.OK
}

// reader is a decoder by the chapter's words.
type reader struct {
	chances     []int
	code, width int
	rest        []byte
	ended       bool
}

func newReader(b []byte, n int) (*reader, api.Errno) {
	if n < 0 || n > 65536 {
		return nil, api.ErrArg
	}
	if len(b) < 5 {
		return nil, api.ErrEnd
	}
	if b[0] != 0 {
		return nil, api.ErrForm
	}
	code := int(b[1])*narrow + int(b[2])*65536 + int(b[3])*256 + int(b[4])
	return &reader{chances: evenByWords(n), code: code, width: top - 1, rest: slices.Clone(b[5:])}, api.OK
}

// bit reads a bit by a chance, or directly (a chance of -1). It is false, if a byte lacks.
func (r *reader) bit(chance int) (int, bool) {
	bit := 0
	if chance < 0 {
		r.width /= 2
		if r.code >= r.width {
			bit = 1
			r.code -= r.width
		}
	} else if b := r.width / 2048 * r.chances[chance]; r.code < b {
		r.width = b
	} else {
		bit = 1
		r.code -= b
		r.width -= b
	}
	for r.width < narrow {
		if len(r.rest) == 0 {
			r.ended = true
			return 0, false
		}
		r.width *= 256
		r.code = (r.code*256 + int(r.rest[0])) % top
		r.rest = r.rest[1:]
	}
	if chance >= 0 {
		r.chances[chance] = behindBit(r.chances[chance], bit)
	}
	return bit, true
}

// do is the step by the words; what it reads is told as a text of digits first.
func (r *reader) do(s step) (int, api.Errno) {
	if !mayBe(s, len(r.chances), false) {
		return 0, api.ErrArg
	}
	if s.call == callSet {
		r.chances = slices.Clone(s.list)
		return 0, api.OK
	}
	if r.ended {
		return 0, api.ErrEnd
	}
	count := s.n
	if s.call == callBit {
		count = 1
	}
	m, digits := 1, ""
	for range count {
		chance := s.base + m
		if s.call == callBit {
			chance = s.base
		} else if s.call == callDirect {
			chance = -1
		}
		bit, ok := r.bit(chance)
		if !ok {
			return 0, api.ErrEnd
		}
		digits += strconv.Itoa(bit)
		m = 2*m + bit
	}
	if s.call == callReverse {
		digits = turned(digits)
	}
	v, _ := strconv.ParseInt("0"+digits, 2, 64)
	return int(v), api.OK
}

func (r *reader) done() bool { return len(r.rest) == 0 && r.code == 0 && !r.ended }
