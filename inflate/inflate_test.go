package inflate_test

import (
	"bytes"
	"compress/flate"
	"io"
	"math"
	"math/rand"
	"slices"
	"strings"
	"testing"

	"hamper/api"
	"hamper/inflate"
	"hamper/limit"
	"hamper/token"
)

// inflated asks for the text, and whether what was handed in, and the room behind it, stayed as it was.
func inflated(t *testing.T, b []byte, most int) answer {
	t.Helper()
	room := append(slices.Clone(b), 0xa5, 0x5a, 0xa5)
	kept := slices.Clone(room)
	out, used, e := inflate.Inflate(room[:len(b)], most)
	if !bytes.Equal(room, kept) {
		t.Errorf("Inflate(% x, %d) changed what was handed in", cut(b), most)
	}
	if e != api.OK && (len(out) != 0 || used != 0) {
		t.Errorf("Inflate(% x, %d) = %q, %d beside %v", cut(b), most, cut(out), used, e)
	}
	return answer{string(out), used, e}
}

// cut keeps messages short.
func cut(b []byte) []byte { return b[:min(len(b), 80)] }

func check(t *testing.T, b []byte, most int, want answer) {
	t.Helper()
	if got := inflated(t, b, most); got != want {
		t.Errorf("Inflate(% x (%d), %d) = %q (%d), %d, %v, want %q (%d), %d, %v", cut(b), len(b), most,
			cut([]byte(got.out)), len(got.out), got.used, got.e, cut([]byte(want.out)), len(want.out), want.used, want.e)
	}
}

// checkTells asks for a text of just these bytes, and holds the model against it, too.
func checkTells(t *testing.T, b []byte, want string) {
	t.Helper()
	a := answer{want, len(b), api.OK}
	if got := byWords(b, len(want)); got != a {
		t.Errorf("the model tells of % x: %q, %d, %v", cut(b), cut([]byte(got.out)), got.used, got.e)
	}
	check(t, b, len(want), a)
	check(t, b, api.MaxBytes, a)
	if want != "" {
		check(t, b, len(want)-1, answer{e: api.ErrBig})
		check(t, b, 0, answer{e: api.ErrBig})
	}
}

func checkFails(t *testing.T, b []byte, most int, want api.Errno) {
	t.Helper()
	if got := byWords(b, most); got.e != want {
		t.Errorf("the model tells of % x: %v, want %v", cut(b), got.e, want)
	}
	check(t, b, most, answer{e: want})
}

func TestExamples(t *testing.T) {
	for _, x := range []struct {
		b    string
		most int
		want answer
	}{
		{"\x03\x00", 9, answer{"", 2, api.OK}},
		{"\x03\x00", 0, answer{"", 2, api.OK}},
		{"\x4b\x04\x00", 9, answer{"a", 3, api.OK}},
		{"\x4b\x04\x00", 1, answer{"a", 3, api.OK}},
		{"\x4b\x04\x00", 0, answer{e: api.ErrBig}},
		{"\x01\x01\x00\xfe\xffa", 9, answer{"a", 6, api.OK}},
		{"\x01\x01\x00\xfd\xffa", 9, answer{e: api.ErrForm}},
		{"\x07", 9, answer{e: api.ErrKind}},
		{"", 9, answer{e: api.ErrEnd}},
	} {
		check(t, []byte(x.b), x.most, x.want)
		if got := byWords([]byte(x.b), x.most); got != x.want {
			t.Errorf("the model tells of % x: %v", x.b, got)
		}
	}
}

func checkLook(t *testing.T, name string, look func(int) (int, int, api.Errno), first int, listed [][2]int) {
	t.Helper()
	wrong := []int{math.MinInt, math.MinInt + 1, math.MinInt32, math.MaxInt32, math.MaxInt - 1, math.MaxInt, 1 << 32, 1<<32 + first}
	for s := -600; s <= 900; s++ {
		if i := s - first; i >= 0 && i < len(listed) {
			least, extra, e := look(s)
			if least != listed[i][0] || extra != listed[i][1] || e != api.OK {
				t.Errorf("%s(%d) = %d, %d, %v, want %v", name, s, least, extra, e, listed[i])
			}
			continue
		}
		wrong = append(wrong, s)
	}
	for _, s := range wrong {
		if least, extra, e := look(s); least != 0 || extra != 0 || e != api.ErrArg {
			t.Errorf("%s(%d) = %d, %d, %v, want ErrArg", name, s, least, extra, e)
		}
	}
}

func TestP7_1LengthOf(t *testing.T) {
	checkLook(t, "LengthOf", inflate.LengthOf, 257, listedLengths)
	least, extra, e := inflate.LengthOf(284)
	if least+1<<extra-1 != 258 || e != api.OK { // what 285 tells in no bits
		t.Errorf("LengthOf(284) = %d, %d, %v", least, extra, e)
	}
}

func TestP7_1DistanceOf(t *testing.T) {
	checkLook(t, "DistanceOf", inflate.DistanceOf, 0, listedDistances)
	next := 1
	for s := range 30 {
		least, extra, e := inflate.DistanceOf(s)
		if least != next || e != api.OK {
			t.Errorf("DistanceOf(%d) = %d, %d, %v, want the distance behind those of the symbol ahead, %d", s, least, extra, e, next)
		}
		next += 1 << extra
	}
	if next != 32769 {
		t.Errorf("the distances end ahead of %d", next)
	}
}

func TestP7_1FixedAndOrder(t *testing.T) {
	for _, x := range []struct {
		name string
		ask  func() []int
		want []int
	}{{"Fixed", inflate.Fixed, fixedLengths()}, {"Order", inflate.Order, listedOrder}} {
		l := x.ask()
		if !slices.Equal(l, x.want) {
			t.Errorf("%s = %v", x.name, l)
		}
		for i := range l[:cap(l)] {
			l[:cap(l)][i] = -7
		}
		if again := x.ask(); !slices.Equal(again, x.want) {
			t.Errorf("%s behind a change of what it told = %v", x.name, again)
		}
	}
	checkTells(t, packed(func(w *row) { w.fixed(true, singles("a\x90\xff")...) }), "a\x90\xff")
}

func TestP7_2Most(t *testing.T) {
	for _, b := range [][]byte{nil, {}, {7}, {3, 0}, {0x4b, 4, 0}, {0x4b, 4}, {1, 1, 0, 0, 0}} {
		for _, most := range []int{-1, -2, math.MinInt, math.MinInt32, api.MaxBytes + 1, api.MaxBytes + 2, math.MaxInt, math.MaxInt32, 1 << 32} {
			check(t, b, most, answer{e: api.ErrArg})
		}
		for _, most := range []int{0, 1, 2, api.MaxBytes - 1, api.MaxBytes} {
			check(t, b, most, byWords(b, most))
		}
	}
}

func TestP7_2StoredBlocks(t *testing.T) {
	long := strings.Repeat("0123456789abcde", 4369)
	if len(long) != 65535 {
		t.Fatal(len(long))
	}
	for _, text := range []string{"", "a", "\x00", "\xff\xff", "abc", long[:255], long[:256], long[:4091], long[:4092], long[:65534], long} {
		checkTells(t, packed(func(w *row) { w.stored(true, text) }), text)
	}
	checkTells(t, packed(func(w *row) {
		w.stored(false, "")
		w.stored(false, "ab")
		w.stored(false, "")
		w.stored(true, "cd")
	}), "abcd")
	checkTells(t, packed(func(w *row) {
		w.stored(false, long)
		w.stored(false, long)
		w.stored(true, "")
	}), long+long)
}

// P7.2: the digits up to the whole place are not looked at, however many they are.
func TestP7_2StoredBlockAtEachPlace(t *testing.T) {
	for ahead := range 8 {
		for _, filler := range []string{"0", "1"} {
			want := ""
			b := packed(func(w *row) {
				for w.Len()%8 != ahead {
					w.fixed(false, single(0xf0))
					want += "\xf0"
				}
				w.begin(true, 0)
				w.fill(filler)
				w.low(2, 16)
				w.low(65533, 16)
				w.plain("xy")
			})
			checkTells(t, b, want+"xy")
		}
	}
}

func TestP7_2StoredBlocksThatAreNone(t *testing.T) {
	for i := range 16 { // each bit of m, and each of n
		b := []byte{1, 5, 0, 0xfa, 0xff, 'a', 'b', 'c', 'd', 'e'}
		b[3+i/8] ^= 1 << (i % 8)
		checkFails(t, b, 100, api.ErrForm)
		b = []byte{1, 5, 0, 0xfa, 0xff, 'a', 'b', 'c', 'd', 'e'}
		b[1+i/8] ^= 1 << (i % 8)
		checkFails(t, b, api.MaxBytes, api.ErrForm)
	}
	for _, b := range []string{"\x01\x05\x00\x05\x00abcde", "\x01\x00\x00\x00\x00", "\x01\xff\xff\xff\xff", "\x01\x00\x05\xfa\xffabcde"} {
		checkFails(t, []byte(b), 100, api.ErrForm)
	}
}

// P7.2: of a stored block's errors the first is told: n and m that end, that do not fit, too many bytes, bytes that end.
func TestP7_2StoredErrorsInOrder(t *testing.T) {
	for _, x := range []struct {
		b    string
		most int
		want api.Errno
	}{
		{"\x01", 0, api.ErrEnd}, {"\x01\x05", 0, api.ErrEnd}, {"\x01\x05\x00", 0, api.ErrEnd}, {"\x01\x05\x00\x00", 0, api.ErrEnd},
		{"\x01\x05\x00\x00\x00", 0, api.ErrForm}, {"\x01\x05\x00\x00\x00abcde", 9, api.ErrForm},
		{"\x01\x05\x00\xfa\xff", 4, api.ErrBig}, {"\x01\x05\x00\xfa\xffabcd", 4, api.ErrBig}, {"\x01\x05\x00\xfa\xffabcde", 4, api.ErrBig},
		{"\x01\x05\x00\xfa\xff", 5, api.ErrEnd}, {"\x01\x05\x00\xfa\xffabcd", 5, api.ErrEnd},
		{"\x01\xff\xff\x00\x00", 65534, api.ErrBig}, {"\x01\xff\xff\x00\x00", 65535, api.ErrEnd},
		{"\x00\x02\x00\xfd\xffab\x01\x02\x00\xfd\xffcd", 3, api.ErrBig}, {"\x00\x02\x00\xfd\xffab\x01\x02\x00\xfd\xffc", 4, api.ErrEnd},
	} {
		checkFails(t, []byte(x.b), x.most, x.want)
	}
}

func TestP7_2Kind3(t *testing.T) {
	for _, b := range [][]byte{{6}, {7}, {0xff}, {0xfe, 0xff}, {7, 0, 0, 0, 0, 0, 0}} {
		for _, most := range []int{0, 9, api.MaxBytes} {
			checkFails(t, b, most, api.ErrKind)
		}
	}
	for _, last := range []bool{false, true} {
		checkFails(t, packed(func(w *row) { w.fixed(false, single('a')); w.begin(last, 3) }), 9, api.ErrKind)
		checkFails(t, packed(func(w *row) { w.stored(false, "a"); w.begin(last, 3) }), 9, api.ErrKind)
		checkFails(t, packed(func(w *row) { w.fixed(false, single('a')); w.begin(last, 3) }), 0, api.ErrBig)
	}
}

func TestP7_2FixedBlocks(t *testing.T) {
	all := ""
	for i := range 256 {
		all += string([]byte{byte(i)})
	}
	checkTells(t, packed(func(w *row) { w.fixed(true, singles(all)...) }), all)
	checkTells(t, packed(func(w *row) { w.fixed(true, single('a'), piece(3, 1), single('b'), piece(10, 5)) }), "aaaabaaaabaaaab")
	checkTells(t, packed(func(w *row) {
		w.fixed(false)
		w.fixed(false, single('a'))
		w.fixed(false)
		w.fixed(true, piece(258, 1))
	}), strings.Repeat("a", 259))
}

// P7.2: blocks of all kinds stand behind each other in any order, and pieces reach back into those ahead.
func TestP7_2BlocksOfDifferentKinds(t *testing.T) {
	symbols := lengthsWith(286, 'a', 'b', 256, 257, 285)
	distances := lengthsWith(30, 0, 1, 3)
	inFixed := []api.Token{single('x'), single('b'), single('a'), piece(3, 2)}
	inOwn := []api.Token{single('a'), single('b'), piece(3, 2), single('a'), piece(3, 4)}
	for code := range 81 {
		all := []api.Token{single('b'), single('b')}
		b := packed(func(w *row) {
			w.stored(false, "bb")
			for i, left := 0, code; i < 4; i, left = i+1, left/3 {
				last := i == 3
				switch left % 3 {
				case 0:
					w.stored(last, "aba")
					all = append(all, singles("aba")...)
				case 1:
					w.fixed(last, inFixed...)
					all = append(all, inFixed...)
				case 2:
					w.own(last, symbols, distances, append([]api.Token{piece(3, 2)}, inOwn...)...)
					all = append(append(all, piece(3, 2)), inOwn...)
				}
			}
		})
		want, e := token.Expand(nil, all)
		if e != api.OK {
			t.Fatal(e)
		}
		checkTells(t, b, string(want))
	}
}

func TestP7_2OwnCodes(t *testing.T) {
	none, one := []int{0}, []int{1}
	checkTells(t, packed(func(w *row) { w.own(true, lengthsWith(257, 256), none) }), "")
	checkTells(t, packed(func(w *row) { w.own(true, lengthsWith(257, 256), one) }), "")
	checkTells(t, packed(func(w *row) { w.own(true, lengthsWith(257, 'a', 256), none, singles("aaaa")...) }), "aaaa")
	checkTells(t, packed(func(w *row) { w.own(true, lengthsWith(257, 0, 256), none, singles("\x00")...) }), "\x00")
	checkTells(t, packed(func(w *row) {
		w.own(true, lengthsWith(258, 'a', 256, 257), one, single('a'), piece(3, 1), piece(3, 1))
	}), "aaaaaaa")
	checkTells(t, packed(func(w *row) {
		w.own(true, lengthsWith(286, 256, 285, 'a', 284), lengthsWith(30, 29), single('a')) // 29 of length 1 alone
	}), "a")
	checkTells(t, packed(func(w *row) { // the longest words: fifteen bits
		deep := lengthsWith(286, 'a', 'b', 'c', 'd', 'e', 'f', 'g', 'h', 'i', 'j', 'k', 'l', 'm', 'n', 285, 256)
		w.own(true, deep, lengthsWith(30, 5, 6, 7, 8, 9, 10, 11, 12, 13, 14, 15, 4, 3, 2, 1, 0), append(singles("abcdefghijklmn"), piece(258, 1), piece(258, 2))...)
	}), "abcdefghijklm"+strings.Repeat("n", 517))
	checkTells(t, packed(func(w *row) { // the order of symbols in words of one length, over all of them
		w.own(true, joined(many(8, 226), many(9, 60)), joined(many(5, 28), many(4, 2)), append(singles("\x00\xe1\xe2\xff"), piece(258, 4), piece(3, 262))...)
	}), strings.Repeat("\x00\xe1\xe2\xff", 66)[:262]+"\x00\xe1\xe2")
}

// P7.2: no word at all for distances, and a word that none is.
func TestP7_3WordsThatAreNone(t *testing.T) {
	symbols := lengthsWith(258, 'a', 256, 257)
	words := wordsOf(symbols)
	for _, distances := range [][]int{{0}, {1}, {0, 1}, {0, 0, 0}} {
		for _, digit := range []string{"0", "1"} {
			b := packed(func(w *row) {
				w.ownHead(true, 258, len(distances), each(joined(symbols, distances))...)
				w.WriteString(words['a'] + words[257] + digit)
				w.fill("0")
				w.plain("\x00\x00")
			})
			want := api.ErrForm // no word, or not this one
			switch i := slices.Index(distances, 1); {
			case i >= 0 && digit == "0" && i == 0:
				continue
			case i == 1 && digit == "0":
				want = api.ErrBack // two back, where one came out
			}
			checkFails(t, b, 100, want)
		}
	}
	checkFails(t, packed(func(w *row) { // symbols: 256 alone, by the word 0
		w.ownHead(true, 257, 1, each(joined(lengthsWith(257, 256), []int{0}))...)
		w.WriteString("1")
	}), 100, api.ErrForm)
}

// P7.2: lengths told by 16, 17 and 18, with the fewest and the most of each.
func TestP7_2Repeats(t *testing.T) {
	tell := func(l, d int, steps ...step) []byte {
		return packed(func(w *row) { w.ownHead(true, l, d, steps...); w.WriteString("0") }) // 256 has the word 0
	}
	for _, steps := range [][]step{
		{{18, 127}, {18, 107}, {1, 0}, {0, 0}},
		{{18, 127}, {18, 106}, {0, 0}, {1, 0}, {0, 0}},
		{{0, 0}, {16, 3}, {16, 0}, {18, 127}, {18, 97}, {1, 0}, {0, 0}},
		{{17, 0}, {17, 7}, {18, 0}, {18, 127}, {18, 83}, {1, 0}, {1, 0}},
		{{18, 127}, {18, 91}, {16, 3}, {17, 7}, {1, 0}, {1, 0}},
	} {
		checkTells(t, tell(257, 1, steps...), "")
	}
	noughts := []step{{18, 127}, {18, 107}, {1, 0}} // 256 of them, and the length of 256
	for _, x := range []struct {
		l, d int
		last step
	}{
		{257, 11, step{18, 0}}, {257, 3, step{17, 0}}, {257, 10, step{17, 7}}, {257, 30, step{18, 19}},
		{258, 2, step{17, 0}}, {260, 7, step{17, 7}}, {286, 30, step{18, 48}}, {286, 1, step{18, 19}},
	} {
		steps := append(slices.Clone(noughts), x.last)
		checkTells(t, tell(x.l, x.d, steps...), "") // it ends just at l + d
		if x.d > 1 {
			checkFails(t, tell(x.l, x.d-1, steps...), 9, api.ErrForm)
		}
		steps[3].more++
		if steps[3].symbol != 17 || x.last.more < 7 {
			checkFails(t, tell(x.l, x.d, steps...), 9, api.ErrForm)
		}
	}
	checkFails(t, tell(257, 1, step{18, 127}, step{18, 127}), 9, api.ErrForm) // 276, where 258 are asked for
	checkFails(t, tell(257, 1, step{18, 127}, step{18, 108}, step{1, 0}), 9, api.ErrForm)
}

// P7.2: a length is told again from the first l into the other d.
func TestP7_2RepeatsOfTheOneAhead(t *testing.T) {
	ahead := []step{{18, 127}, {18, 106}, {2, 0}} // 255 noughts, then 255, 256, 257, 258 and the four distances have length 2
	for _, x := range []struct {
		steps []step
		want  api.Errno
	}{
		{[]step{{16, 3}, {2, 0}}, api.OK},
		{[]step{{16, 0}, {16, 1}}, api.OK},
		{[]step{{16, 1}, {16, 0}}, api.OK},
		{[]step{{2, 0}, {16, 3}}, api.OK},
		{[]step{{16, 0}, {16, 2}}, api.ErrForm},
		{[]step{{16, 3}, {16, 0}}, api.ErrForm},
		{[]step{{16, 3}, {17, 0}}, api.ErrForm},
		{[]step{{16, 3}, {0, 0}}, api.ErrCode},
		{[]step{{16, 0}, {16, 0}, {3, 0}}, api.ErrCode},
		{[]step{{16, 2}, {3, 0}, {3, 0}}, api.ErrCode}, // distances of 2 2 3 3
	} {
		b := packed(func(w *row) {
			w.ownHead(true, 259, 4, append(slices.Clone(ahead), x.steps...)...)
			w.WriteString("00" + "10" + "00" + "01") // the byte 255, a piece of 3 from the distance 1, the end
		})
		if x.want != api.OK {
			checkFails(t, b, 9, x.want)
			continue
		}
		checkTells(t, b, "\xff\xff\xff\xff")
	}
	for more := range 4 { // the first of all has none ahead
		checkFails(t, packed(func(w *row) { w.ownHead(true, 257, 1, step{16, more}); w.plain("\x00\x00") }), 9, api.ErrForm)
	}
	// Behind 17 and 18 the one ahead is 0.
	for _, zero := range []step{{17, 0}, {18, 0}} {
		n := 6
		if zero.symbol == 18 {
			n = 14
		}
		checkTells(t, packed(func(w *row) {
			w.ownHead(true, 257, 1, zero, step{16, 0}, step{18, 127}, step{18, 118 - n - 11}, step{1, 0}, step{0, 0})
			w.WriteString("0")
		}), "")
	}
}

// innerOnly is an own block with k lengths of the code by which lengths are told, and nothing but noughts behind.
func innerOnly(lengths []int, k int) []byte {
	return packed(func(w *row) {
		w.begin(true, 2)
		w.counts(257, 1, k)
		w.inner(lengths, k)
		w.fill("0")
		w.plain(strings.Repeat("\x00", 80))
	})
}

// P7.2: how many lengths tell the code by which lengths are told.
func TestP7_2InnerCodes(t *testing.T) {
	for k := 4; k <= 19; k++ { // the last of k has a word, those behind it have none
		inner := many(0, 19)
		last := listedOrder[k-1]
		inner[18], inner[0], inner[last] = 2, 2, 1
		if last == 0 {
			inner[18], inner[0] = 1, 1
		}
		checkFails(t, packed(func(w *row) {
			w.begin(true, 2)
			w.counts(286, 30, k)
			w.inner(inner, k)
			w.steps(inner, step{18, 127}, step{18, 127}, step{18, 29}) // 316 noughts
		}), 9, api.ErrForm) // the length of 256 is 0
	}
	least := many(0, 19)
	least[16], least[17], least[18], least[0] = 2, 2, 2, 2
	checkFails(t, packed(func(w *row) {
		w.begin(true, 2)
		w.counts(257, 1, 4)
		w.inner(least, 4)
		w.steps(least, step{0, 0}, step{16, 3}, step{18, 127}, step{17, 0}, step{18, 99})
	}), 9, api.ErrForm)
	checkTells(t, packed(func(w *row) { // all 19
		w.own(true, lengthsWith(257, 'a', 256), []int{1}, singles("aa")...)
	}), "aa")
}

// P7.2: the code by which lengths are told is full: one word alone will not do, nor none.
func TestP7_2InnerCodesThatAreNone(t *testing.T) {
	for _, k := range []int{4, 5, 18, 19} {
		for _, lengths := range [][]int{
			{}, {1}, {2}, {7}, {1, 1, 1}, {2, 2, 2}, {1, 2}, {1, 2, 2, 1}, {3, 3, 3, 3}, {1, 2, 3}, {7, 7, 7, 7}, {1, 1, 0, 7},
		} {
			inner := many(0, 19)
			for i, n := range lengths {
				inner[listedOrder[i]] = n
			}
			checkFails(t, innerOnly(inner, k), 9, api.ErrCode)
		}
	}
}

// P7.2: words of seven bits, and the last of its lengths at the last place of all but one.
func TestP7_2DeepInnerCode(t *testing.T) {
	deep := many(0, 19)
	deep[1], deep[0], deep[9], deep[7], deep[8], deep[16], deep[17], deep[18] = 1, 2, 3, 4, 5, 6, 7, 7
	for _, k := range []int{17, 18, 19} {
		b := packed(func(w *row) {
			w.begin(true, 2)
			w.counts(257, 1, k)
			w.inner(deep, k)
			w.steps(deep, step{18, 127}, step{18, 107}, step{1, 0}, step{0, 0})
			w.WriteString("0")
		})
		if k < 18 { // 1, that has the shortest word, is left out
			checkFails(t, b, 9, api.ErrCode)
			continue
		}
		checkTells(t, b, "")
	}
}

func TestP7_2TooManyLengths(t *testing.T) {
	for l := 257; l <= 288; l++ {
		for d := 1; d <= 32; d++ {
			b := packed(func(w *row) {
				w.ownHead(true, l, d, step{18, 127}, step{18, 107}, step{1, 0})
				for range l + d - 257 {
					w.steps(evenInner(), step{0, 0})
				}
				w.WriteString("0")
			})
			if l > 286 || d > 30 {
				checkFails(t, b, 9, api.ErrForm)
				continue
			}
			check(t, b, 9, answer{"", len(b), api.OK})
		}
	}
}

// P7.2: 256 must have a word.
func TestP7_2NoEnd(t *testing.T) {
	for _, symbols := range [][]int{many(0, 257), lengthsWith(257, 'a'), lengthsWith(257, 'a', 'b'), lengthsWith(286, 'a', 257, 285)} {
		for _, distances := range [][]int{{0}, {1}, {1, 1}, {1, 1, 1}} {
			checkFails(t, packed(func(w *row) {
				w.ownHead(true, len(symbols), len(distances), each(joined(symbols, distances))...)
				w.plain("\x00\x00\x00\x00")
			}), 9, api.ErrForm)
		}
	}
}

// P7.2: lengths that are no code, of symbols or of distances.
func TestP7_2LengthsThatAreNoCode(t *testing.T) {
	right := lengthsWith(257, 'a', 256)
	with := func(length int, symbols ...int) []int {
		l := many(0, 286)
		for _, s := range symbols {
			l[s] = length
		}
		return l
	}
	for _, x := range []struct{ symbols, distances []int }{
		{with(2, 256), []int{0}}, {with(15, 256), []int{0}}, {with(2, 255, 256), []int{0}}, {with(1, 254, 255, 256), []int{0}},
		{with(2, 1, 2, 256), []int{1, 1}}, {with(2, 1, 2, 3, 4, 256), []int{1}},
		{right, []int{2}}, {right, []int{15}}, {right, []int{1, 1, 1}}, {right, []int{1, 2}}, {right, []int{2, 2, 2}}, {right, []int{0, 3}},
		{with(2, 256), []int{2}}, {right, joined(many(5, 29), []int{0})}, {right, many(5, 30)},
	} {
		checkFails(t, packed(func(w *row) {
			w.ownHead(true, len(x.symbols), len(x.distances), each(joined(x.symbols, x.distances))...)
			w.plain("\x00\x00\x00\x00")
		}), 9, api.ErrCode)
	}
}

// P7.2: of an own block's errors the first is told.
func TestP7_2OwnErrorsInOrder(t *testing.T) {
	shifted := func(bits int, write func(w *row)) []byte { // so many bits more, then the end
		return packed(func(w *row) {
			for w.Len()%8 != bits {
				w.fixed(false, single(0xf0))
			}
			write(w)
			if w.Len()%8 != 0 {
				panic("not at a byte's end")
			}
		})
	}
	low := func(v, n int) func(w *row) { return func(w *row) { w.begin(true, 2); w.low(v, n) } }
	for n := range 14 { // l and d too great, but the bits end ahead of k's last
		checkFails(t, shifted((16-3-n%8)%8, low(1<<n-1, n)), 99, api.ErrEnd)
	}
	checkFails(t, shifted(7, low(1<<14-1, 14)), 99, api.ErrForm)                            // all there: too many, ahead of the lengths that lack
	checkFails(t, shifted(7, low(30, 14)), 99, api.ErrForm)                                 // l alone
	checkFails(t, shifted(7, low(30<<5, 14)), 99, api.ErrForm)                              // d alone
	checkFails(t, shifted(7, low(29|29<<5, 14)), 99, api.ErrEnd)                            // neither
	checkFails(t, shifted(3, low(31|0x49<<14, 26)), 99, api.ErrForm)                        // too many, and over-full
	checkFails(t, shifted(6, low(0x49<<14, 23)), 99, api.ErrEnd)                            // over-full, but one of the four lengths lacks
	checkFails(t, shifted(3, low(0x249<<14, 26)), 99, api.ErrCode)                          // over-full
	checkFails(t, shifted(3, low(0x009<<14, 26)), 99, api.ErrEnd)                           // 16 and 17 have a word each, and no bit is left
	one := func(w *row) { w.begin(true, 2); w.low(9<<14, 26) }                              // 16 has the word 0
	checkFails(t, shifted(2, func(w *row) { one(w); w.WriteString("0") }), 99, api.ErrEnd)  // 16 with none ahead, without its bits
	checkFails(t, shifted(1, func(w *row) { one(w); w.WriteString("00") }), 99, api.ErrEnd) // with one of them
	checkFails(t, shifted(0, func(w *row) { one(w); w.WriteString("000") }), 99, api.ErrForm)
	checkFails(t, packed(func(w *row) { w.ownHead(true, 257, 1, step{18, 127}, step{18, 127}) }), 99, api.ErrForm) // too many, 256 without a word
	checkFails(t, packed(func(w *row) {
		w.ownHead(true, 257, 1, step{1, 0}, step{16, 0}, step{18, 127}, step{18, 127})
	}), 99, api.ErrForm) // too many, and over-full
	checkFails(t, packed(func(w *row) {
		w.ownHead(true, 257, 1, each(many(1, 256))...)
		w.steps(evenInner(), step{0, 0}, step{2, 0})
	}), 99, api.ErrForm) // 256 without a word, and over-full
}

func TestP7_3Symbols(t *testing.T) {
	words := fixedWords
	for i, x := range listedLengths { // the least and the greatest length of each symbol
		for _, n := range []int{x[0], x[0] + 1<<x[1] - 1} {
			checkTells(t, packed(func(w *row) {
				w.stored(false, "abcdefgh")
				w.fixedWords(true, 257+i)
				w.low(n-x[0], x[1])
				w.WriteString("00101" + "1" + words[256]) // the distances' symbol 5, from 7 on, and one bit: 8 back
			}), strings.Repeat("abcdefgh", 40)[:8+n])
		}
	}
	for _, s := range []int{286, 287} {
		for _, most := range []int{0, 1, 99} {
			checkFails(t, packed(func(w *row) { w.fixedWords(true, s) }), most, api.ErrForm)
			checkFails(t, packed(func(w *row) { w.fixedWords(true, s); w.plain("abc") }), most, api.ErrForm)
		}
		checkFails(t, packed(func(w *row) { w.fixedWords(true, 'a', s) }), 99, api.ErrForm)
	}
}

func TestP7_3Distances(t *testing.T) {
	base := make([]byte, 32768)
	rand.New(rand.NewSource(7)).Read(base)
	words := fixedWords
	for s, x := range listedDistances {
		for _, d := range []int{x[0], x[0] + 1<<x[1] - 1} {
			tell := func(came int) []byte {
				return packed(func(w *row) {
					w.stored(false, string(base[:came]))
					w.fixedWords(true, 264) // of 10 bytes
					w.WriteString(digitsOf(s, 5))
					w.low(d-x[0], x[1])
					w.WriteString(words[256])
				})
			}
			out := slices.Clone(base[:d])
			for range 10 {
				out = append(out, out[len(out)-d])
			}
			checkTells(t, tell(d), string(out)) // back to the first byte of all
			for _, most := range []int{d - 1, d, 99999} {
				e := api.ErrBack
				if most < d-1 {
					e = api.ErrBig
				}
				check(t, tell(d-1), most, answer{e: e}) // one more than came out
			}
		}
	}
	for _, s := range []int{30, 31} {
		for _, most := range []int{1, 3, 99} {
			b := packed(func(w *row) { w.fixedWords(true, 'a', 257); w.WriteString(digitsOf(s, 5)) })
			checkFails(t, b, most, api.ErrForm)
			checkFails(t, append(b, 0, 0, 0, 0), most, api.ErrForm)
		}
	}
}

// P7.3: of a token's errors the first is told.
func TestP7_3ErrorsInOrder(t *testing.T) {
	words := fixedWords
	tell := func(digits string) []byte {
		return packed(func(w *row) { w.begin(true, 1); w.WriteString(digits); w.fill("0") })
	}
	a := words['a']
	for _, x := range []struct {
		digits string
		most   int
		want   api.Errno
	}{
		{a + a, 1, api.ErrBig}, {a + a, 2, api.ErrEnd}, // the first byte too many, ahead of the end
		{words[257] + "00000" + words[256], 0, api.ErrBack}, {words[257] + "00000" + words[256], 99, api.ErrBack}, // ahead of ErrBig
		{a + words[257] + "00001" + words[256], 1, api.ErrBack}, {a + words[257] + "00000" + words[256], 1, api.ErrBig},
		{a + words[257] + "00000" + words[256], 3, api.ErrBig}, {a + words[257] + "11110", 0, api.ErrBig},
		{a + words[257] + "11110", 1, api.ErrForm}, {words[257] + "11111", 0, api.ErrForm},
		{words[285] + "00000" + words[256], 257, api.ErrBack}, {a + words[285] + "00000" + words[256], 258, api.ErrBig},
		{words[286], 0, api.ErrForm},
		{a + words[257] + "00000" + a, 4, api.ErrBig}, {a + words[257] + "00000" + words[287], 4, api.ErrForm},
	} {
		checkFails(t, tell(x.digits), x.most, x.want)
	}
}

// P7.3: pieces that reach into themselves, and pieces of every length from every short distance.
func TestP7_3PiecesThatReachIntoThemselves(t *testing.T) {
	for d := 1; d <= 12; d++ {
		for n := 3; n <= 258; n++ {
			l := append(singles("abcdefghijkl"[:d]), piece(n, d), single('z'), piece(4, 2))
			want, e := token.Expand(nil, l)
			if e != api.OK {
				t.Fatal(e)
			}
			b := packed(func(w *row) { w.fixed(true, l...) })
			check(t, b, len(want), answer{string(want), len(b), api.OK})
			check(t, b, len(want)-1, answer{e: api.ErrBig})
		}
	}
}

// samples are packed texts of all kinds of blocks.
func samples() [][]byte {
	symbols := lengthsWith(286, 'a', 'b', 256, 257, 285, 270)
	distances := lengthsWith(30, 0, 1, 9, 3)
	return [][]byte{
		{3, 0}, {0x4b, 4, 0}, {1, 0, 0, 0xff, 0xff},
		packed(func(w *row) { w.stored(false, "xyz"); w.stored(true, "uvw") }),
		packed(func(w *row) {
			w.fixed(true, append(singles("abcdefg\xe0"), piece(258, 8), piece(60, 3), single('x'))...)
		}),
		packed(func(w *row) {
			w.own(true, symbols, distances, append(singles(strings.Repeat("ab", 20)), piece(258, 31), piece(24, 4), piece(3, 1))...)
		}),
		packed(func(w *row) {
			w.fixed(false, single('a'))
			w.own(false, lengthsWith(257, 'b', 256), []int{0}, singles("bbb")...)
			w.stored(false, "c")
			w.own(true, symbols, distances, single('a'), piece(3, 4))
		}),
		packed(func(w *row) {
			w.fixed(false)
			w.ownHead(true, 257, 1, step{18, 127}, step{18, 91}, step{16, 3}, step{17, 7}, step{1, 0}, step{0, 0})
			w.WriteString("0")
		}),
	}
}

// P7.2, P7.4: whatever stands behind is not looked at, and of fewer bytes no text is told.
func TestP7_4WhatStandsBehind(t *testing.T) {
	r := rand.New(rand.NewSource(74))
	for _, b := range samples() {
		want := byWords(b, api.MaxBytes)
		if want.e != api.OK || want.used != len(b) {
			t.Fatal(want)
		}
		checkTells(t, b, want.out)
		for n := range 20 {
			behind := make([]byte, []int{1, 2, 5, 300, 5000, 70000}[n%6])
			r.Read(behind)
			if n%5 == 0 {
				behind = bytes.Repeat([]byte{byte(-(n / 5 % 2))}, len(behind))
			}
			check(t, slices.Concat(b, behind), len(want.out), want)
			check(t, slices.Concat(b, b, behind), api.MaxBytes, want)
			if want.out != "" {
				check(t, slices.Concat(b, behind), len(want.out)-1, answer{e: api.ErrBig})
			}
		}
		for n := range len(b) {
			checkFails(t, b[:n], api.MaxBytes, api.ErrEnd)
		}
	}
}

// P7.2: bits that end at each place of a block.
func TestP7_2BitsThatEnd(t *testing.T) {
	symbols := lengthsWith(286, 'a', 'b', 256, 257, 285, 270)
	distances := lengthsWith(30, 0, 1, 9, 3)
	for shift := range 8 {
		for _, write := range []func(w *row){
			func(w *row) { w.stored(true, "xyz") },
			func(w *row) {
				w.fixed(true, append(singles("abcdefg\xe0"), piece(258, 8), piece(60, 3), single('x'))...)
			},
			func(w *row) { w.own(true, symbols, distances, append(singles("aab"), piece(24, 2))...) },
			func(w *row) {
				w.ownHead(true, 257, 1, step{18, 127}, step{18, 91}, step{16, 3}, step{17, 7}, step{1, 0}, step{0, 0})
				w.WriteString("0")
			},
		} {
			w := &row{}
			for w.Len()%8 != shift {
				w.fixed(false, single(0xf0))
			}
			write(w)
			for _, filler := range []string{"0", "1"} {
				b := w.bytes(filler)
				want := byWords(b, api.MaxBytes)
				if want.e != api.OK || want.used != len(b) {
					t.Fatal(want)
				}
				check(t, b, api.MaxBytes, want)
				for n := range len(b) {
					checkFails(t, b[:n], api.MaxBytes, api.ErrEnd)
				}
			}
		}
	}
}

// P7.4: texts whose packed bytes end at and around the places up to which they are read in one go.
func TestP7_4LongTexts(t *testing.T) {
	r := rand.New(rand.NewSource(4096))
	for _, size := range []int{4090, 4091, 4092, 4096, 8192, 32763, 32764, 32768, 262144, 300000} {
		text := make([]byte, size)
		r.Read(text)
		b := packed(func(w *row) {
			rest := string(text)
			for ; len(rest) > 65000; rest = rest[65000:] {
				w.stored(false, rest[:65000])
			}
			w.stored(true, rest)
		})
		want := answer{string(text), len(b), api.OK}
		for _, behind := range []int{0, 1, 4096, 40000} {
			check(t, append(slices.Clone(b), make([]byte, behind)...), size, want)
		}
		check(t, b[:len(b)-1], size, answer{e: api.ErrEnd})
		check(t, b, size-1, answer{e: api.ErrBig})
	}
}

// P7.2: as much as may come out at all, and one byte more.
func TestP7_2MaxBytes(t *testing.T) {
	// The codes' words: 'a' 10, 256 11, 285 0; the distance 1 is 0.
	w := &row{}
	w.own(false, lengthsWith(286, 285, 'a', 256), []int{1}, single('a'))
	w.begin(false, 2)
	w.counts(286, 1, 19)
	w.inner(evenInner(), 19)
	w.steps(evenInner(), each(joined(lengthsWith(286, 285, 'a', 256), []int{1}))...)
	const pieces = (api.MaxBytes - 1) / 258
	for range pieces {
		w.WriteString("00")
	}
	w.WriteString("11")
	left := api.MaxBytes - 1 - 258*pieces
	w.stored(true, strings.Repeat("a", left))
	b := w.bytes("0")
	out, used, e := inflate.Inflate(b, api.MaxBytes)
	if len(out) != api.MaxBytes || used != len(b) || e != api.OK || bytes.Count(out, []byte("a")) != len(out) {
		t.Errorf("%d bytes, %d, %v", len(out), used, e)
	}
	out, used, e = inflate.Inflate(b, api.MaxBytes-1)
	if len(out) != 0 || used != 0 || e != api.ErrBig {
		t.Errorf("%d bytes, %d, %v", len(out), used, e)
	}
}

// P7.2: every short row of bytes.
func TestEveryShortInput(t *testing.T) {
	for n := range 65536 + 256 {
		b := []byte{byte(n)}
		if n >= 256 {
			b = []byte{byte(n), byte((n - 256) >> 8)}
		}
		for _, most := range []int{0, 1, 9} {
			if got, want := inflated(t, b, most), byWords(b, most); got != want {
				t.Fatalf("Inflate(% x, %d) = %v, want %v", b, most, got, want)
			}
		}
	}
}

// randomLengths is a code over so many symbols, of which those named by must have a word.
func randomLengths(r *rand.Rand, count, most int, must ...int) []int {
	often := make([]int, count)
	for range 1 + r.Intn(40) {
		often[r.Intn(count)] += 1 + r.Intn(100)
	}
	for _, s := range must {
		often[s] += 1 + r.Intn(20)
	}
	l, e := limit.Lengths(often, most)
	if e != api.OK {
		panic(e)
	}
	return l
}

// randomSteps tells lengths, by repeats where they fit and chance wants them.
func randomSteps(r *rand.Rand, lengths []int) []step {
	var l []step
	for at := 0; at < len(lengths); {
		run := 1
		for at+run < len(lengths) && lengths[at+run] == lengths[at] {
			run++
		}
		zero := lengths[at] == 0
		again := at > 0 && lengths[at-1] == lengths[at]
		n := 1
		switch pick := r.Intn(4); {
		case pick == 0 && again && run >= 3:
			n = 3 + r.Intn(min(run, 6)-2)
			l = append(l, step{16, n - 3})
		case pick == 1 && zero && run >= 3:
			n = 3 + r.Intn(min(run, 10)-2)
			l = append(l, step{17, n - 3})
		case pick == 2 && zero && run >= 11:
			n = 11 + r.Intn(min(run, 138)-10)
			l = append(l, step{18, n - 11})
		default:
			l = append(l, step{lengths[at], 0})
		}
		at += n
	}
	return l
}

// randomTokens is tokens that these lengths have words for; came is how many bytes came out ahead.
func randomTokens(r *rand.Rand, symbols, distances []int, came int) []api.Token {
	var l []api.Token
	for range r.Intn(30) {
		s := r.Intn(min(len(symbols), 286))
		if symbols[s] == 0 || s == 256 {
			continue
		}
		if s < 256 {
			l = append(l, single(byte(s)))
			came++
			continue
		}
		d := r.Intn(min(len(distances), 30))
		if distances[d] == 0 || listedDistances[d][0] > came {
			continue
		}
		n := listedLengths[s-257][0] + r.Intn(1<<listedLengths[s-257][1])
		if n == 258 && symbols[len(symbols)-1] == 0 {
			continue
		}
		l = append(l, piece(n, min(came, listedDistances[d][0]+r.Intn(1<<listedDistances[d][1]))))
		came += n
	}
	return l
}

// randomPacked is a packed text of some blocks.
func randomPacked(r *rand.Rand) []byte {
	return packed(func(w *row) {
		came := 0
		count := func(l []api.Token) []api.Token {
			n, _ := token.Length(l)
			came += n
			return l
		}
		blocks := 1 + r.Intn(4)
		for i := range blocks {
			last := i == blocks-1
			switch r.Intn(4) {
			case 0:
				b := make([]byte, r.Intn(40))
				r.Read(b)
				w.stored(last, string(b))
				came += len(b)
			case 1:
				w.fixed(last, count(randomTokens(r, fixedLengths(), many(5, 32), came))...)
			default:
				symbols := randomLengths(r, 257+r.Intn(30), 15, 256, r.Intn(256))
				distances := randomLengths(r, 1+r.Intn(30), 15)
				if slices.Max(distances) > 1 && r.Intn(9) == 0 {
					distances = many(0, len(distances))
				}
				randomOwn(r, w, last, symbols, distances, count(randomTokens(r, symbols, distances, came)))
			}
		}
	})
}

// randomOwn writes a block with its own codes, their lengths told by a code of just the symbols that it takes.
func randomOwn(r *rand.Rand, w *row, last bool, symbols, distances []int, tokens []api.Token) {
	steps := randomSteps(r, joined(symbols, distances))
	often := make([]int, 19)
	often[r.Intn(19)]++
	often[0]++
	often[18]++
	for _, s := range steps {
		often[s.symbol]++
	}
	inner, e := limit.Lengths(often, 7)
	if e != api.OK {
		panic(e)
	}
	k := 19
	for k > 4 && inner[listedOrder[k-1]] == 0 && r.Intn(20) > 0 {
		k--
	}
	w.begin(last, 2)
	w.counts(len(symbols), len(distances), k)
	w.inner(inner, k)
	w.steps(inner, steps...)
	w.body(symbols, distances, tokens...)
}

// P7.2 to P7.4: many packed texts, and as many with some bits turned about, bytes taken out, and ends cut off.
func TestRandomTexts(t *testing.T) {
	r := rand.New(rand.NewSource(1951))
	told := map[api.Errno]int{}
	for range 1500 {
		b := randomPacked(r)
		want := byWords(b, api.MaxBytes)
		if want.e != api.OK || want.used != len(b) {
			t.Fatalf("the model tells of % x: %v", b, want)
		}
		check(t, b, len(want.out), want)
		if want.out != "" {
			checkFails(t, b, r.Intn(len(want.out)), api.ErrBig)
		}
		plain, err := io.ReadAll(flate.NewReader(bytes.NewReader(b)))
		if err != nil || string(plain) != want.out {
			t.Errorf("% x are told otherwise by others: %q, %v", b, plain, err)
		}
		for range 6 {
			c := slices.Clone(b)
			for range 1 + r.Intn(2) {
				c[r.Intn(min(len(c), 1+r.Intn(60)))] ^= 1 << r.Intn(8)
			}
			if r.Intn(4) == 0 {
				c = c[:r.Intn(len(c)+1)]
			}
			most := r.Intn(2 * (len(want.out) + 1))
			if r.Intn(2) == 0 {
				most = api.MaxBytes
			}
			want := byWords(c, most)
			check(t, c, most, want)
			told[want.e]++
		}
	}
	for _, e := range []api.Errno{api.OK, api.ErrForm, api.ErrEnd, api.ErrCode, api.ErrBack, api.ErrBig, api.ErrKind} {
		if told[e] < 20 {
			t.Errorf("%v was told %d times", e, told[e])
		}
	}
}

// W2: bytes of chance end, as the document's words say.
func TestRandomBytes(t *testing.T) {
	r := rand.New(rand.NewSource(7))
	for range 20000 {
		b := make([]byte, r.Intn(60))
		r.Read(b)
		if len(b) > 0 && r.Intn(2) == 0 {
			b[0] = b[0]&^7 | byte(r.Intn(2)) | 4 // an own block, whose counts are likely right
		}
		most := []int{0, 5, 300, api.MaxBytes}[r.Intn(4)]
		check(t, b, most, byWords(b, most))
	}
}

// What others pack is told, at each of their levels.
func TestWhatOthersPack(t *testing.T) {
	r := rand.New(rand.NewSource(3))
	noise := make([]byte, 100000)
	r.Read(noise)
	few := make([]byte, 200000)
	for i := range few {
		few[i] = "acgt"[r.Intn(4)]
	}
	for _, text := range []string{
		"", "a", "hello, hello, hello", strings.Repeat("a", 70000), strings.Repeat("abcdefghij", 20000), string(noise), string(few), string(noise[:40000]) + string(few[:50000]) + string(noise[:40000]),
	} {
		for level := -2; level <= 9; level++ {
			var b bytes.Buffer
			w, err := flate.NewWriter(&b, level)
			if err != nil {
				t.Fatal(err)
			}
			io.WriteString(w, text)
			w.Close()
			want := answer{text, b.Len(), api.OK}
			check(t, b.Bytes(), len(text), want)
			check(t, append(b.Bytes(), 1, 2, 3), api.MaxBytes, want)
			check(t, b.Bytes()[:b.Len()-1], api.MaxBytes, answer{e: api.ErrEnd})
		}
	}
}

// Rule 4: what is told is memory of its own.
func TestWhatIsToldIsNew(t *testing.T) {
	b := []byte("\x01\x05\x00\xfa\xffabcde")
	first, _, _ := inflate.Inflate(b, 9)
	for i := range first[:cap(first)] {
		first[:cap(first)][i] = 'z'
	}
	if string(b) != "\x01\x05\x00\xfa\xffabcde" {
		t.Errorf("what was handed in is now %q", b)
	}
	second, _, _ := inflate.Inflate(b, 9)
	b[5] = 'y'
	if string(second) != "abcde" {
		t.Errorf("what was told is now %q", second)
	}
}

// Many short blocks end soon, and a short text ahead of many bytes costs no more than itself.
func TestManyShortTexts(t *testing.T) {
	b := packed(func(w *row) {
		for range 100000 {
			w.fixed(false)
		}
		w.fixed(true, single('a'))
	})
	check(t, b, 1, answer{"a", len(b), api.OK})
	rest := bytes.Repeat([]byte{3, 0}, 1<<22)
	for at := range 20000 {
		if _, used, e := inflate.Inflate(rest[2*at:], 0); used != 2 || e != api.OK {
			t.Fatal(used, e)
		}
	}
}
