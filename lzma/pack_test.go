package lzma_test

import (
	"bytes"
	"encoding/hex"
	"math/rand"
	"slices"
	"strings"
	"testing"

	"hamper/api"
	"hamper/lzma"
)

func single(c byte) piece { return piece{kind: aByte, c: c} }

func match(n, f int) piece { return piece{kind: aMatch, n: n, f: f} }

func far(j, n int) piece { return piece{kind: aFar, j: j, n: n} }

func oneByte() piece { return piece{kind: aOne} }

func singles(s string) []piece {
	var l []piece
	for _, c := range []byte(s) {
		l = append(l, single(c))
	}
	return l
}

// packs holds what is packed against pieces that were told by hand.
func (w *twins) packs(s string, want ...piece) {
	w.t.Helper()
	if _, pieces := w.pack(text(s)); !slices.Equal(pieces, want) {
		w.t.Fatalf("Pack(%.60q) has the pieces %v, want %v", s, pieces, want)
	}
}

// puts makes pieces come by Unpack.
func (w *twins) puts(pieces ...piece) {
	w.t.Helper()
	if !w.unpack(w.m.clone().write(pieces...), sizeOf(pieces)) {
		w.t.Fatalf("%v are refused", pieces)
	}
}

// squares are numbers of four bytes, some of which come again.
func squares() []byte {
	var b []byte
	for i := range 65 {
		if i >= 40 {
			i -= 20
		}
		b = append(b, byte(i*i%97), 0, 0, 0)
	}
	return b
}

// sevens are bytes by a rule, runs of one byte between them, and of three.
func sevens() []byte {
	var rule []byte
	for i := range 100 {
		rule = append(rule, byte(i*7%11))
	}
	x := func(n int) []byte { return bytes.Repeat([]byte("x"), n) }
	return slices.Concat(rule, x(300), rule[:40], x(20), bytes.Repeat([]byte("abx"), 7))
}

const shells = "she sells sea shells by the sea shore; the shells she sells are sea shells, for sure. so if she sells shells on the sea shore, then i'm sure she sells sea shore shells."

// P14.3: bytes that liblzma was asked to read, too, and of which it told these texts.
func TestPackedAsOthersReadIt(t *testing.T) {
	for _, x := range []struct {
		p      lzma.Props
		text   string
		packed string
	}{
		{props(0, 0, 0), "a", "00307ffc0000"},
		{props(0, 0, 0), "banana bandana banana bandanas, banana!", "003119572ad233da4dd1198d64cbb7cbec2bbaed0000"},
		{props(3, 0, 2), shells, "00399a08ce76d98e23af9fb939d25cc7e7c5d96441f0b291c9d0c6bbd5d21f7155478292cef03da430c69c897f82abaa4f0987220ec6d9678b8d2d9654bce0afd31ef85b9bf008a8320cc1b8b565f20e6bbd5d6d41"},
		{props(1, 3, 4), string(sevens()), "000001c0599ead8751e4b892804e5441915ef32926531b67c1cdeb246ad14ceb3000"},
	} {
		w := newTwins(t, 4096, x.p)
		if packed, _ := w.pack(text(x.text)); hex.EncodeToString(packed) != x.packed {
			t.Errorf("%.20q with %v: %x", x.text, x.p, packed)
		}
	}
}

// P14.3: which pieces a text has, told by hand.
func TestPiecesByHand(t *testing.T) {
	for _, x := range []struct {
		text string
		want []piece
	}{
		{"", nil},
		{"a", singles("a")},
		{"aa", singles("aa")},                           // one byte of a far one is none
		{"aaa", append(singles("a"), far(0, 2))},        // F0 is 0 at first; the match has as many
		{"abab", append(singles("ab"), match(2, 1))},    // no far one
		{"abcb", singles("abcb")},                       // one byte of a match is none
		{"banana", append(singles("ban"), match(3, 1))}, // it reaches into itself
		{"ananas, ananas", append(singles("an"), match(3, 1), single('s'), single(','), single(' '), match(6, 7))},
		{"abcabcabcd", append(singles("abc"), match(6, 2), single('d'))},
		{"ab-ab+ab", append(singles("ab-"), match(2, 2), single('+'), far(0, 2))}, // F0 is 2 now; there is a match of as many
	} {
		newTwins(t, 100, props(0, 0, 0)).packs(x.text, x.want...)
	}
}

// P14.3: the far one is taken, if it and one are at least as many as the match has, and it has two.
func TestFarOrMatch(t *testing.T) {
	begin := func() *twins {
		w := newTwins(t, 100, props(1, 1, 1))
		w.copy(text("abcdefgh-abcx=12"))
		w.puts(match(2, 8)) // "h-": then F0 lies at "abcx"
		return w
	}
	begin().packs("abcx", far(0, 4))
	begin().packs("abc", far(0, 3)) // as many
	w := begin()
	w.packs("abcd", far(0, 3), single('d')) // the match has one more
	begin().packs("abcde", match(5, 17))    // two more
	begin().packs("abcdefgh", match(8, 17))

	begin = func() *twins {
		w := newTwins(t, 100, props(1, 1, 1))
		w.copy(text("abcdefgh-abx=a12"))
		w.puts(match(2, 7)) // "-a": then F0 lies at "bx"
		return w
	}
	begin().packs("bc", match(2, 16))  // the far one has one byte alone
	begin().packs("bcd", match(3, 16)) // and the match three
	begin().packs("bx", far(0, 2))
	begin().packs("bq", single('b'), single('q'))
}

// P14.3: of several far ones the longest, of several like ones the first.
func TestWhichFarOne(t *testing.T) {
	begin := func(ahead string) *twins {
		w := newTwins(t, 200, props(0, 2, 0))
		w.copy(text(ahead))
		w.puts(match(2, 39), match(2, 29), match(2, 19), match(2, 9)) // F is 9, 19, 29, 39
		return w
	}
	// Behind the eight bytes that came, the far ones lie at 38, 28, 18 and 8.
	ahead := func(last, third, second, first string) string {
		b := []byte("................................................")[:40]
		for i, s := range []string{last, third, second, first} {
			copy(b[8+10*i:], s)
		}
		return string(b)
	}
	plain := ahead("abc#", "abd#", "abe#", "")
	begin(plain).packs("abe", far(1, 3))
	begin(plain).packs("abd", far(2, 3))
	begin(plain).packs("abc", far(3, 3))
	begin(plain).packs("ab", far(1, 2))
	begin(ahead("abc#", "abc+", "abc-", "")).packs("abc", far(1, 3))
	begin(ahead("abc#", "abc+", "ab--", "")).packs("abc", far(2, 3))
	begin(ahead("abc#", "abc+", "ab--", "")).packs("abc#", far(3, 4))
	begin(ahead("abc#", "", "", "ab")).packs("abc#", far(3, 4))
	for j := range 4 { // the order of F behind each of them
		w := begin(plain)
		w.puts(far(j, 3))
		w.probe()
	}
}

// P14.3: each of the lengths at the edges, of a match and of each far one, also where the text ends there.
func TestPackedLengths(t *testing.T) {
	r := rand.New(rand.NewSource(1410))
	long := randomText(r, 600, 200) // no piece of it comes again
	for _, n := range []int{2, 3, 9, 10, 11, 17, 18, 19, 272, 273} {
		for _, pb := range []int{0, 2, 4} {
			for _, more := range []string{"", "\xff\xfe"} {
				want := []piece{match(n, 599)}
				if more != "" {
					want = append(want, singles(more)...)
				}
				w := newTwins(t, 1000, props(0, 0, pb))
				w.copy(slices.Clone(long))
				w.packs(string(long[:n])+more, want...)

				want[0] = far(0, n)
				w = newTwins(t, 1000, props(0, 0, pb))
				w.copy(slices.Clone(long))
				w.puts(match(2, 599)) // then F0 lies behind these two
				w.packs(string(long[2:2+n])+more, want...)

				for j := 1; j < 4; j++ {
					w = newTwins(t, 1000, props(0, 0, pb))
					w.copy(slices.Clone(long))
					w.puts(match(2, 599))
					for i := range j { // F0 becomes Fj
						w.puts(match(2, 10+i))
					}
					want[0] = far(j, n)
					w.packs(string(long[2+2*j:2+2*j+n])+more, want...)
				}
			}
		}
	}
	w := newTwins(t, 1000, props(0, 0, 0))
	w.packs(strings.Repeat("a", 1+273+273+2), append(singles("a"), far(0, 273), far(0, 273), far(0, 2))...)
	w.packs(strings.Repeat("a", 274), far(0, 273), single('a'))
	w = newTwins(t, 1000, props(0, 0, 0))
	w.copy(slices.Clone(long))
	w.packs(string(long[:275]), match(273, 599), far(0, 2))
}

// P14.3: how far back matches lie: the edges of slots, near ones and those with bits that are written directly.
func TestPackedDistances(t *testing.T) {
	r := rand.New(rand.NewSource(1411))
	const size = 1 << 21
	all := make([]byte, 0, size+8)
	all = append(all, randomText(r, size, 200)...)
	var edges []int
	for e := range 21 {
		for _, f := range []int{1 << e, 1<<e + 1<<e/2} {
			edges = append(edges, f-1, f, f+1)
		}
	}
	edges = append(edges, 0, 3, 4, 126, 127, 128, size-1)
	slices.Sort(edges)
	for _, f := range slices.Compact(edges) {
		if f < 0 {
			continue
		}
		ahead := f + 1 // just as many, so that it is the first byte, too
		w := newTwins(t, size, props(0, 0, 0))
		part := all[:ahead]
		unique := []byte{250, 251, 252, 253, 254}[:min(5, ahead)]
		part = slices.Concat(unique, part[len(unique):])
		for len(part) > 1<<20 {
			w.copy(slices.Clone(part[:1<<20]))
			part = part[1<<20:]
		}
		w.copy(slices.Clone(part))
		n := len(unique)
		if f == 0 { // else F0 would lie there
			w.copy(text("0123456789"))
			w.puts(match(2, 9), match(2, 8), match(2, 7), match(2, 6))
			w.copy([]byte{250})
			w.packs("\xfa\xfa", match(2, 0))
			continue
		}
		w.packs(string(unique[:n]), match(n, f))
	}
}

// P14.3, P14.4: a byte behind a piece is held against the one F0 + 1 back: it is that one, or the first unlike bit is each of the eight; and F0 lies beyond the text.
func TestByteLikeTheOneBack(t *testing.T) {
	for _, other := range []byte{0, 0x55, 0xaa, 0xff, 'a'} {
		for _, last := range []piece{match(2, 5), far(0, 2), far(3, 2), oneByte()} {
			for bit := -1; bit < 8; bit++ {
				c := other
				if bit >= 0 {
					c ^= 1 << bit
				}
				for _, lc := range []int{0, 3} {
					begin := func() *twins {
						w := newTwins(t, 50, props(lc, 1, 0))
						w.copy([]byte{other, other, 1, 2, 3, 4, 5, 6, 7, other, 8})
						w.puts(match(2, 4), match(2, 3), match(2, 2), match(2, 1))
						w.copy([]byte{other, other, other, other, other, other, other})
						w.puts(last)
						return w
					}
					w := begin()
					w.puts(single(c), single(c))
					w.probe()
					w = begin()
					w.pack([]byte{c})
					w.probe()
					w = begin()
					w.forget()
					w.puts(single(c), single(other))
					w.probe()
				}
			}
		}
	}
}

// P14.3: only window bytes count, for matches and for far ones; the byte ahead is there even if the window is one byte.
func TestPackedWithShortWindows(t *testing.T) {
	w := newTwins(t, 5, props(0, 0, 0))
	w.packs("abcde", singles("abcde")...)
	w.packs("abcde", match(5, 4))
	w = newTwins(t, 4, props(0, 0, 0))
	w.packs("abcdeabcde", singles("abcdeabcde")...)
	w = newTwins(t, 1, props(4, 0, 0))
	w.packs("ababbbbab\xff\xff\xffab", append(append(singles("abab"), far(0, 3)), append(singles("ab\xff"), append([]piece{far(0, 2)}, singles("ab")...)...)...)...)

	w = newTwins(t, 6, props(0, 0, 0)) // F0 lies just in sight, however much comes
	w.packs("abcdef", singles("abcdef")...)
	w.packs("abc", match(3, 5))
	w.packs("xyz", singles("xyz")...)
	w.packs("xyz", match(3, 2))
	w.packs("c-c", singles("c-c")...)
	w.probe()

	r := rand.New(rand.NewSource(1412))
	for window := 1; window <= 40; window++ {
		for range 6 {
			w := newTwins(t, window, props(r.Intn(5), 0, r.Intn(5)))
			for range 4 {
				w.pack(repeating(r, 1+r.Intn(120), 1+r.Intn(4)))
			}
			w.probe()
		}
	}
}

// eachText tells every text of at most so many bytes, each of them one of the letters.
func eachText(most int, letters string, tell func([]byte)) {
	var longer func(b []byte)
	longer = func(b []byte) {
		tell(b)
		if len(b) == most {
			return
		}
		for _, c := range []byte(letters) {
			longer(append(slices.Clone(b), c))
		}
	}
	longer(nil)
}

// P14.3: all short texts, each packed as a whole and in two parts.
func TestPackEachShortText(t *testing.T) {
	for _, letters := range []string{"ab", "a\x80\xff"} {
		most := 9
		if len(letters) > 2 {
			most = 6
		}
		eachText(most, letters, func(b []byte) {
			w := newTwins(t, 1+len(b)%5, props(len(b)%3, len(b)%2, len(b)%5))
			w.pack(slices.Clone(b))
			w = newTwins(t, 100, props(0, 0, 0))
			w.pack(slices.Clone(b[:len(b)/2]))
			w.pack(slices.Clone(b[len(b)/2:]))
		})
	}
}

// P14.3: texts with any number of pieces, and such in which many places are alike, with all props.
func TestPackLongerTexts(t *testing.T) {
	r := rand.New(rand.NewSource(1413))
	for i, p := range allProps() {
		for _, letters := range []int{2, 4, 20, 256} {
			window := []int{1 << 28, 3000, 1000, 100}[i%4]
			w := newTwins(t, window, p)
			w.pack(repeating(r, 1000, letters))
			w.copy(randomText(r, 300, letters))
			w.pack(randomText(r, 700, letters))
			w.pack(repeating(r, 1500, letters))
			w.probe()
		}
	}
}

// P14.3: texts with so many pieces that they are sought by an index, and such in which that finds too many.
func TestPackManyPieces(t *testing.T) {
	r := rand.New(rand.NewSource(1414))
	for name, b := range hardTexts(r, 12000) {
		for _, window := range []int{1 << 23, 12000, 5000, 300, 17} {
			w := newTwins(t, window, props(3, 0, 2))
			w.copy(slices.Clone(b[:4000]))
			w.pack(slices.Clone(b))
			if t.Failed() {
				t.Fatal(name)
			}
		}
	}
}

// hardTexts tells texts of so many bytes, in which pieces stood often, far back or nowhere.
func hardTexts(r *rand.Rand, size int) map[string][]byte {
	var rising, runs, lines []byte
	for i := 0; len(rising) < size; i++ {
		rising = append(append(rising, make([]byte, i%97)...), 1)
	}
	for len(runs) < size {
		runs = append(append(runs, bytes.Repeat([]byte("a"), 20+r.Intn(40))...), 'b')
	}
	for len(lines) < size {
		lines = append(lines, "2026-11-18 host GET /index/"...)
		lines = append(lines, randomText(r, 3, 10)...)
		lines = append(lines, " 200 and so on, as long as it lasts\n"...)
	}
	fibonacci, next := []byte("a"), []byte("ab")
	for len(next) < size {
		fibonacci, next = next, slices.Concat(next, fibonacci)
	}
	l := map[string][]byte{
		"rising": rising, "runs": runs, "lines": lines, "fibonacci": next,
		"two": randomText(r, size, 2), "four": randomText(r, size, 4), "all": randomText(r, size, 256),
		"repeating": repeating(r, size, 3), "repeating more": repeating(r, size, 256),
	}
	for name := range l {
		l[name] = l[name][:size]
	}
	return l
}

// P14.3, P14.4, P14.5: as many bytes as may be packed at once.
func TestPackMostBytes(t *testing.T) {
	r := rand.New(rand.NewSource(1415))
	const most = 1 << 20
	for name, b := range map[string][]byte{
		"noughts": make([]byte, most), "all": randomText(r, most, 256), "few": randomText(r, most, 5), "repeating": repeating(r, most, 40),
	} {
		s, o := newState(t, 1<<20, props(3, 0, 2)), newState(t, 1<<20, props(3, 0, 2))
		for range 2 {
			packed, e := s.Pack(b)
			if e != api.OK {
				t.Fatalf("%s: error %d", name, int(e))
			}
			if have, e := o.Unpack(packed, most); e != api.OK || !bytes.Equal(have, b) {
				t.Fatalf("%s: Unpack tells another text, or error %d", name, int(e))
			}
			if !bytes.Equal(s.Text(), b) || !bytes.Equal(o.Text(), b) {
				t.Fatalf("%s: the text is another one", name)
			}
		}
	}
}

func newState(t *testing.T, window int, p lzma.Props) *lzma.State {
	t.Helper()
	s, e := lzma.New(window)
	if e != api.OK {
		t.Fatal(int(e))
	}
	if e := s.Reset(p); e != api.OK {
		t.Fatal(int(e))
	}
	return s
}
