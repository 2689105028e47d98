package token_test

import (
	"bytes"
	"math"
	"math/rand"
	"slices"
	"strings"
	"testing"

	"hamper/api"
	"hamper/token"
)

// matchByWords tells the match by the document's words alone: every distance, every byte of the piece.
func matchByWords(b []byte, at, window, most int) (length, distance int) {
	for d := 1; d <= window && d <= at; d++ {
		n := 0
		for n < most && at+n < len(b) && b[at+n] == b[at+n-d] {
			n++
		}
		if n > length {
			length, distance = n, d
		}
	}
	return length, distance
}

func parseByWords(b []byte, from, window, least, most int) []api.Token {
	var l []api.Token
	for at := from; at < len(b); {
		n, d := matchByWords(b, at, window, most)
		if n < least {
			l = append(l, single(b[at]))
			at++
			continue
		}
		l = append(l, piece(n, d))
		at += n
	}
	return l
}

// expandByWords makes the bytes one by one; the tokens must be right ones.
func expandByWords(before []byte, l []api.Token) []byte {
	all := slices.Clone(before)
	for _, t := range l {
		if t.Length == 0 {
			all = append(all, t.Byte)
		}
		for range t.Length {
			all = append(all, all[len(all)-t.Distance])
		}
	}
	return all[len(before):]
}

func single(c byte) api.Token { return api.Token{Byte: c} }

func piece(length, distance int) api.Token { return api.Token{Length: length, Distance: distance} }

func matches(t *testing.T, b string, at, window, most, length, distance int) {
	t.Helper()
	if n, d, e := token.Match([]byte(b), at, window, most); n != length || d != distance || e != api.OK {
		t.Errorf("Match(%.40q, %d, %d, %d) = %d, %d, error %d, want %d, %d", b, at, window, most, n, d, int(e), length, distance)
	}
}

func parses(t *testing.T, b string, from, window, least, most int, want ...api.Token) {
	t.Helper()
	if l, e := token.Parse([]byte(b), from, window, least, most); e != api.OK || !slices.Equal(l, want) {
		t.Errorf("Parse(%.40q, %d, %d, %d, %d) = %v, error %d, want %v", b, from, window, least, most, l, int(e), want)
	}
}

func expands(t *testing.T, before, want string, l ...api.Token) {
	t.Helper()
	if b, e := token.Expand([]byte(before), l); e != api.OK || string(b) != want {
		t.Errorf("Expand(%q, %v) = %q, error %d, want %q", before, l, b, int(e), want)
	}
	if n, e := token.Length(l); e != api.OK || n != len(want) {
		t.Errorf("Length(%v) = %d, error %d, want %d", l, n, int(e), len(want))
	}
}

func expandRefuses(t *testing.T, before string, want api.Errno, l ...api.Token) {
	t.Helper()
	if b, e := token.Expand([]byte(before), l); e != want || len(b) > 0 {
		t.Errorf("Expand(%q, %v) = %d bytes, error %d, want error %d", before, l, len(b), int(e), int(want))
	}
}

func lengthTells(t *testing.T, want int, wantError api.Errno, l ...api.Token) {
	t.Helper()
	if n, e := token.Length(l); n != want || e != wantError {
		t.Errorf("Length(%v) = %d, error %d, want %d, error %d", l, n, int(e), want, int(wantError))
	}
}

// eachText tells every text of at most so many bytes, each of them one of the letters.
func eachText(most int, letters string, tell func([]byte)) {
	var longer func(b []byte)
	longer = func(b []byte) {
		tell(b)
		if len(b) == most {
			return
		}
		for _, c := range []byte(letters) {
			longer(append(slices.Clone(b), c))
		}
	}
	longer(nil)
}

func randomText(r *rand.Rand, size, letters int) []byte {
	b := make([]byte, size)
	for i := range b {
		b[i] = byte(r.Intn(letters))
	}
	return b
}

// repeating tells a text of pieces that stood ahead and of new bytes, in runs of any length.
func repeating(r *rand.Rand, size, letters int) []byte {
	b := randomText(r, 1, letters)
	for len(b) < size {
		if r.Intn(3) == 0 {
			b = append(b, randomText(r, 1+r.Intn(4), letters)...)
			continue
		}
		d := 1 + r.Intn(len(b))
		for range 1 + r.Intn(1<<r.Intn(9)) {
			b = append(b, b[len(b)-d])
		}
	}
	return b[:size]
}

// hardTexts tells texts of about so many bytes in which many places have long pieces.
func hardTexts(size int) map[string][]byte {
	fibonacci, next := []byte("a"), []byte("ab")
	for len(next) < size {
		fibonacci, next = next, slices.Concat(next, fibonacci)
	}
	var rising, falling, runs []byte
	for i := 0; len(rising) < size; i++ {
		rising = append(rising, make([]byte, i+1)...)
		rising[len(rising)-1] = 1
	}
	for i := range rising {
		falling = append(falling, rising[len(rising)-1-i])
	}
	for i := 0; len(runs) < size; i++ {
		runs = append(runs, make([]byte, 300)...)
		runs = append(runs, byte(1+i%200), byte(1+i/200))
	}
	period := bytes.Repeat([]byte("0123456789abcdef"), size/48)
	half := make([]byte, size/2)
	r := rand.New(rand.NewSource(6))
	return map[string][]byte{
		"of a byte alone": make([]byte, size),
		"of two runs":     slices.Concat(half, []byte{1}, half),
		"of Fibonacci":    next,
		"of rising runs":  rising,
		"of falling runs": falling,
		"of like runs":    runs,
		"of a period":     slices.Concat(period, []byte("x"), period[8:], []byte("yz"), period),
		"of two letters":  randomText(r, size, 2),
		"of all bytes":    randomText(r, size, 256),
		"that repeats":    repeating(r, size, 4),
	}
}

func TestP6_1MatchExamples(t *testing.T) {
	matches(t, "abcabcabcd", 3, 100, 100, 6, 3)
	matches(t, "abcabcabcd", 3, 100, 2, 2, 3)
	matches(t, "abcabcabcd", 3, 2, 100, 0, 0)
	matches(t, "aaaa", 1, 9, 9, 3, 1)
}

func TestP6_1MatchAtTheEnds(t *testing.T) {
	const most = math.MaxInt
	matches(t, "", 0, 1, 1, 0, 0)
	matches(t, "", 0, most, most, 0, 0)
	matches(t, "aaaa", 0, most, most, 0, 0)
	matches(t, "aaaa", 4, most, most, 0, 0)
	matches(t, "aaaa", 4, 1, 1, 0, 0)
	matches(t, "aaaa", 3, most, most, 1, 1)
	matches(t, "abca", 3, most, most, 1, 3)
	matches(t, "abcd", 3, most, most, 0, 0)
	if n, d, e := token.Match(nil, 0, 1, 1); n != 0 || d != 0 || e != api.OK {
		t.Error("Match of nil:", n, d, int(e))
	}
}

func TestP6_1MatchWindow(t *testing.T) {
	b := "abcdefgh" + "xy" + "abcdefgh"
	matches(t, b, 10, 10, 99, 8, 10)
	matches(t, b, 10, 9, 99, 0, 0)
	matches(t, b, 10, math.MaxInt, 99, 8, 10)
	matches(t, b, 12, 10, 99, 6, 10)
	matches(t, "aab", 1, 1, 9, 1, 1)
	matches(t, "aba", 2, 1, 9, 0, 0)
	matches(t, "aba", 2, 2, 9, 1, 2)
	matches(t, "abcab_ab", 6, 3, 9, 2, 3)
	matches(t, "abcab_abc", 6, 5, 9, 2, 3) // the longer piece is out of the window
	matches(t, "abcab_abc", 6, 6, 9, 3, 6)
}

func TestP6_1MatchMost(t *testing.T) {
	b := "abcdabcd"
	for most := 1; most <= 4; most++ {
		matches(t, b, 4, 9, most, most, 4)
	}
	matches(t, b, 4, 9, 5, 4, 4)
	matches(t, b, 4, 9, math.MaxInt, 4, 4)
	matches(t, "abcabxabc", 6, 9, 2, 2, 3) // as long as most, and nearer
	matches(t, "abcabxabc", 6, 9, 3, 3, 6)
}

func TestP6_1MatchIntoItself(t *testing.T) {
	matches(t, "abababab", 2, 9, 9, 6, 2)
	matches(t, "abababa", 2, 9, 9, 5, 2)
	matches(t, "abababac", 2, 9, 9, 5, 2)
	matches(t, "xaaaaaab", 2, 9, 9, 5, 1)
	b := strings.Repeat("\x00", 5000)
	matches(t, b, 1, math.MaxInt, math.MaxInt, 4999, 1)
	matches(t, b, 2500, math.MaxInt, math.MaxInt, 2500, 1)
	matches(t, b, 1, 1, 258, 258, 1)
}

func TestP6_1MatchOfSameLengthIsTheNearest(t *testing.T) {
	matches(t, "abxabyabz", 6, 9, 9, 2, 3)
	matches(t, "aXaYa", 4, 9, 9, 1, 2)
	matches(t, "abcd_abcd_abc_abcd", 14, 99, 99, 4, 9)
	matches(t, "abcd_abcd_abc_abcd", 14, 99, 3, 3, 4)
	matches(t, "aaaaaa", 4, 9, 9, 2, 1)
}

func TestP6_1MatchRefuses(t *testing.T) {
	for _, x := range []struct{ at, window, most int }{
		{-1, 1, 1}, {5, 1, 1}, {math.MinInt, 1, 1}, {math.MaxInt, 1, 1},
		{1, 0, 1}, {1, -1, 1}, {1, math.MinInt, 1},
		{1, 1, 0}, {1, 1, -1}, {1, 1, math.MinInt},
		{0, 0, 1}, {4, 1, 0}, {4, 0, 1}, {-1, 0, 0},
		{math.MaxInt, math.MaxInt, math.MaxInt}, {math.MinInt, math.MinInt, math.MinInt},
	} {
		if n, d, e := token.Match([]byte("aaaa"), x.at, x.window, x.most); n != 0 || d != 0 || e != api.ErrArg {
			t.Errorf("Match(aaaa, %v) = %d, %d, error %d", x, n, d, int(e))
		}
	}
	for _, at := range []int{-1, 1} {
		if _, _, e := token.Match(nil, at, 1, 1); e != api.ErrArg {
			t.Errorf("Match(nil, %d, 1, 1): error %d", at, int(e))
		}
	}
}

// checkMatch compares Match with the document's words at every place of a text.
func checkMatch(t *testing.T, b []byte, windows, mosts []int) {
	t.Helper()
	for at := range len(b) + 1 {
		for _, window := range windows {
			for _, most := range mosts {
				n, d := matchByWords(b, at, window, most)
				if got, far, e := token.Match(b, at, window, most); got != n || far != d || e != api.OK {
					t.Fatalf("Match(%.80q, %d, %d, %d) = %d, %d, error %d, want %d, %d", b, at, window, most, got, far, int(e), n, d)
				}
			}
		}
	}
}

func TestP6_1MatchOfEveryShortText(t *testing.T) {
	numbers := []int{1, 2, 3, 4, 5, 7, 9, 10, math.MaxInt}
	eachText(9, "ab", func(b []byte) { checkMatch(t, b, numbers, numbers) })
	eachText(6, "abc", func(b []byte) { checkMatch(t, b, numbers, numbers) })
}

func TestP6_1MatchOfManyTexts(t *testing.T) {
	r := rand.New(rand.NewSource(61))
	for range 60 {
		windows := []int{1 + r.Intn(8), 1 + r.Intn(300), math.MaxInt}
		mosts := []int{1 + r.Intn(8), 1 + r.Intn(300), math.MaxInt}
		checkMatch(t, repeating(r, 1+r.Intn(300), 1+r.Intn(5)), windows, mosts)
	}
	for _, b := range hardTexts(400) {
		checkMatch(t, b, []int{1, 50, math.MaxInt}, []int{1, 17, 258, math.MaxInt})
	}
}

func TestP6_2ParseExamples(t *testing.T) {
	parses(t, "abab", 0, 9, 2, 9, single('a'), single('b'), piece(2, 2))
}

func TestP6_2ParseAtTheEnds(t *testing.T) {
	parses(t, "", 0, 1, 1, 1)
	parses(t, "", 0, math.MaxInt, math.MaxInt, math.MaxInt)
	parses(t, "abab", 4, 9, 2, 9)
	parses(t, "abab", 3, 9, 1, 9, piece(1, 2))
	parses(t, "abab", 3, 9, 2, 9, single('b'))
	parses(t, "abab", 2, 9, 2, 9, piece(2, 2)) // what stands ahead of from is in sight
	parses(t, "abab", 1, 9, 2, 9, single('b'), piece(2, 2))
	parses(t, "a", 0, 1, 1, 1, single('a'))
	parses(t, "\x00\x00", 0, 1, 1, 1, single(0), piece(1, 1))
	if l, e := token.Parse(nil, 0, 1, 1, 1); len(l) != 0 || e != api.OK {
		t.Error("Parse of nil:", l, int(e))
	}
}

func TestP6_2ParseLeastAndMost(t *testing.T) {
	parses(t, "abcxabcy", 0, 99, 3, 9, single('a'), single('b'), single('c'), single('x'), piece(3, 4), single('y'))
	parses(t, "abcxabcy", 0, 99, 4, 9, single('a'), single('b'), single('c'), single('x'), single('a'), single('b'), single('c'), single('y'))
	parses(t, "aaaaaaaa", 0, 99, 3, 3, single('a'), piece(3, 1), piece(3, 1), single('a'))
	parses(t, "aaaaaaaa", 0, 99, 1, 1, single('a'), piece(1, 1), piece(1, 1), piece(1, 1), piece(1, 1), piece(1, 1), piece(1, 1), piece(1, 1))
	parses(t, "aaaaaaaa", 0, 99, 7, 7, single('a'), piece(7, 1))
	parses(t, "aaaaaaaa", 0, 99, 8, 8, slices.Repeat([]api.Token{single('a')}, 8)...)
	parses(t, "aaaaaaaa", 0, 99, math.MaxInt, math.MaxInt, slices.Repeat([]api.Token{single('a')}, 8)...)
	parses(t, "aaaaaaaa", 0, math.MaxInt, 1, math.MaxInt, single('a'), piece(7, 1))
	long := strings.Repeat("0123456789abcdefghij", 3) // pieces longer than any key
	parses(t, long, 20, 99, 40, 99, piece(40, 20))
	parses(t, long, 40, 99, 20, 20, piece(20, 20))
	parses(t, long, 59, 20, 1, 9, piece(1, 20))
	parses(t, long, 59, 19, 1, 9, single('j'))
}

func TestP6_2ParseWindow(t *testing.T) {
	parses(t, "abcabc", 3, 3, 3, 9, piece(3, 3))
	parses(t, "abcabc", 3, 2, 3, 9, single('a'), single('b'), single('c'))
	parses(t, "aabb", 0, 1, 1, 1, single('a'), piece(1, 1), single('b'), piece(1, 1))
	parses(t, "abab", 0, 1, 1, 9, single('a'), single('b'), single('a'), single('b'))
	parses(t, "abcab_abc", 6, 5, 2, 9, piece(2, 3), single('c'))
	parses(t, "abcab_abc", 6, 6, 2, 9, piece(3, 6))
}

func TestP6_2ParseOfSameLengthIsTheNearest(t *testing.T) {
	parses(t, "abxabyabz", 6, 9, 2, 9, piece(2, 3), single('z'))
	filler := strings.Repeat("0123456789", 10) // so that more places are left than are sought one by one
	parses(t, "abcxabcyabcz"+filler, 8, 99, 3, 9, append([]api.Token{piece(3, 4), single('z')}, parseByWords([]byte("abcxabcyabcz"+filler), 12, 99, 3, 9)...)...)
}

func TestP6_2ParseRefuses(t *testing.T) {
	for _, x := range []struct{ from, window, least, most int }{
		{-1, 1, 1, 1}, {5, 1, 1, 1}, {math.MinInt, 1, 1, 1}, {math.MaxInt, 1, 1, 1},
		{1, 0, 1, 1}, {1, -1, 1, 1}, {1, math.MinInt, 1, 1},
		{1, 1, 0, 1}, {1, 1, -1, 1}, {1, 1, math.MinInt, 1},
		{1, 1, 2, 1}, {1, 1, 3, 2}, {1, 1, 1, 0}, {1, 1, 1, -1}, {1, 1, 1, math.MinInt}, {1, 1, math.MaxInt, math.MaxInt - 1},
		{1, 1, 0, 0}, {1, 1, -2, -1}, {4, 0, 1, 1}, {4, 1, 0, 1}, {4, 1, 2, 1}, {-1, 0, 0, -1},
	} {
		if l, e := token.Parse([]byte("aaaa"), x.from, x.window, x.least, x.most); len(l) != 0 || e != api.ErrArg {
			t.Errorf("Parse(aaaa, %v) = %v, error %d", x, l, int(e))
		}
	}
	for _, from := range []int{-1, 1} {
		if _, e := token.Parse(nil, from, 1, 1, 1); e != api.ErrArg {
			t.Errorf("Parse(nil, %d, 1, 1, 1): error %d", from, int(e))
		}
	}
}

func checkParse(t *testing.T, b []byte, from, window, least, most int) {
	t.Helper()
	want := parseByWords(b, from, window, least, most)
	if l, e := token.Parse(b, from, window, least, most); e != api.OK || !slices.Equal(l, want) {
		t.Fatalf("Parse(%.80q, %d, %d, %d, %d) = %.20v, error %d, want %.20v", b, from, window, least, most, l, int(e), want)
	}
}

func TestP6_2ParseOfEveryShortText(t *testing.T) {
	numbers := []int{1, 2, 3, 5, 8, math.MaxInt}
	check := func(b []byte) {
		for from := range len(b) + 1 {
			for _, window := range numbers {
				for i, least := range numbers {
					for _, most := range numbers[i:] {
						checkParse(t, b, from, window, least, most)
					}
				}
			}
		}
	}
	eachText(8, "ab", check)
	eachText(5, "abc", check)
}

func TestP6_2ParseOfManyTexts(t *testing.T) {
	r := rand.New(rand.NewSource(62))
	for range 400 {
		b := repeating(r, 1+r.Intn(1800), 1+r.Intn(6))
		window := []int{1 + r.Intn(8), 1 + r.Intn(1800), math.MaxInt}[r.Intn(3)]
		least := []int{1 + r.Intn(4), 1 + r.Intn(20)}[r.Intn(2)]
		most := []int{least, least + r.Intn(8), least + r.Intn(300), math.MaxInt}[r.Intn(4)]
		checkParse(t, b, r.Intn(len(b)+1), window, least, most)
	}
	for _, b := range hardTexts(1500) {
		for _, window := range []int{1, 300, math.MaxInt} {
			for least := 1; least <= 18; least++ {
				checkParse(t, b, r.Intn(100), window, least, least+r.Intn(20))
				checkParse(t, b, r.Intn(len(b)), window, least, math.MaxInt)
			}
		}
	}
}

func TestP6_3ExpandExamples(t *testing.T) {
	expands(t, "x", "xxx", piece(3, 1))
	expandRefuses(t, "x", api.ErrBack, piece(1, 2))
	expandRefuses(t, "x", api.ErrArg, api.Token{Distance: 1})
}

func TestP6_3ExpandOfFew(t *testing.T) {
	expands(t, "", "")
	expands(t, "before", "")
	expands(t, "", "\x00", single(0))
	expands(t, "", "\x00\x00\x00", single(0), piece(2, 1))
	expands(t, "", "\x00a\xff", single(0), single('a'), single(255))
	expands(t, "xyz", "ab", single('a'), single('b'))
	if b, e := token.Expand(nil, nil); len(b) != 0 || e != api.OK {
		t.Error("Expand of nil:", b, int(e))
	}
	if n, e := token.Length(nil); n != 0 || e != api.OK {
		t.Error("Length of nil:", n, int(e))
	}
}

func TestP6_3ExpandPieces(t *testing.T) {
	expands(t, "abc", "a", piece(1, 3))
	expands(t, "abc", "abc", piece(3, 3))
	expands(t, "abc", "abcabcab", piece(8, 3)) // from before into itself
	expands(t, "abc", "bcbcb", piece(5, 2))
	expands(t, "abc", "ab", piece(2, 3))
	expands(t, "abc", "dabcdab", single('d'), piece(6, 4))
	expands(t, "abc", "dcdcd", single('d'), piece(4, 2))
	expands(t, "abc", "ddddd", single('d'), piece(4, 1))
	expands(t, "", "abababa", single('a'), single('b'), piece(5, 2))
	expands(t, "ab", "abababa", piece(1, 2), piece(1, 2), piece(2, 4), piece(3, 6))
}

func TestP6_3TokensThatMayNotBe(t *testing.T) {
	for _, x := range []api.Token{
		{Distance: 1}, {Distance: math.MaxInt}, {Distance: 1, Byte: 'a'}, {Distance: -1}, {Distance: -1, Byte: 'a'}, {Distance: math.MinInt},
		{Length: 1}, {Length: math.MaxInt}, {Length: 1, Byte: 'a'}, {Length: 1, Distance: -1}, {Length: 1, Distance: math.MinInt},
		{Length: 1, Distance: 1, Byte: 1}, {Length: 3, Distance: 1, Byte: 255}, {Length: math.MaxInt, Distance: math.MaxInt, Byte: 1},
		{Length: -1}, {Length: -1, Byte: 'a'}, {Length: -1, Distance: 1}, {Length: -1, Distance: -1}, {Length: math.MinInt, Distance: 1}, {Length: math.MinInt, Distance: math.MinInt},
	} {
		expandRefuses(t, "abc", api.ErrArg, x)
		expandRefuses(t, "abc", api.ErrArg, single('a'), piece(1, 1), x, single('a'))
		lengthTells(t, 0, api.ErrArg, x)
		lengthTells(t, 0, api.ErrArg, single('a'), piece(1, 1), x, single('a'))
	}
}

func TestP6_3TooFarBack(t *testing.T) {
	for ahead := range 5 {
		before := "abcd"[:ahead]
		for made := range 4 {
			l := slices.Repeat([]api.Token{single('x')}, made)
			if ahead+made > 0 {
				if b, e := token.Expand([]byte(before), append(slices.Clone(l), piece(1, ahead+made))); e != api.OK || len(b) != made+1 || b[made] != (before + "xxx")[0] {
					t.Errorf("just as far back as %d and %d: %q, error %d", ahead, made, b, int(e))
				}
			}
			for _, d := range []int{ahead + made + 1, ahead + made + 2, math.MaxInt} {
				expandRefuses(t, before, api.ErrBack, append(slices.Clone(l), piece(1, d))...)
				lengthTells(t, made+1, api.OK, append(slices.Clone(l), piece(1, d))...) // Length knows of no text ahead
			}
		}
	}
	expandRefuses(t, "a", api.ErrBack, piece(3, 1), piece(1, 5))
	expands(t, "a", "aaaa", piece(3, 1), piece(1, 4))
}

func TestP6_3TooMuch(t *testing.T) {
	for _, l := range [][]api.Token{
		{piece(api.MaxBytes+1, 1)},
		{piece(math.MaxInt, 1)},
		{piece(api.MaxBytes, 1), single('a')},
		{piece(api.MaxBytes, 1), single(0)},
		{piece(api.MaxBytes, 1), piece(1, 1)},
		{single('a'), piece(api.MaxBytes, 1)},
		{single('a'), piece(api.MaxBytes-1, 1), single('b')},
		{single('a'), piece(math.MaxInt, 1)},
		{piece(api.MaxBytes, 1), piece(math.MaxInt, 1)},
		{piece(api.MaxBytes/2, 1), piece(api.MaxBytes/2+1, 2)},
		{piece(math.MaxInt, 1), piece(math.MaxInt, 1), piece(3, 1)},
		slices.Repeat([]api.Token{piece(math.MaxInt/2, 1)}, 9),
	} {
		expandRefuses(t, "x", api.ErrBig, l...)
		lengthTells(t, 0, api.ErrBig, l...)
	}
	lengthTells(t, api.MaxBytes, api.OK, piece(api.MaxBytes, math.MaxInt))
	lengthTells(t, api.MaxBytes, api.OK, single(0), piece(api.MaxBytes-2, 1), single(0))
	lengthTells(t, api.MaxBytes, api.OK, piece(api.MaxBytes/2, 9), piece(api.MaxBytes/2, 9))
}

func TestP6_3JustMaxBytes(t *testing.T) {
	b, e := token.Expand([]byte("yyx"), []api.Token{piece(api.MaxBytes-1, 1), single('z')})
	if e != api.OK || len(b) != api.MaxBytes || bytes.Count(b, []byte("x")) != api.MaxBytes-1 || b[len(b)-1] != 'z' {
		t.Errorf("MaxBytes made: %d bytes, error %d", len(b), int(e))
	}
	// what stands ahead may be more than MaxBytes
	before := make([]byte, api.MaxBytes+5)
	before[0] = 'a'
	if b, e := token.Expand(before, []api.Token{piece(2, api.MaxBytes+5)}); e != api.OK || string(b) != "a\x00" {
		t.Errorf("behind more than MaxBytes: %q, error %d", b, int(e))
	}
	if _, e := token.Expand(before, []api.Token{piece(2, api.MaxBytes+6)}); e != api.ErrBack {
		t.Errorf("behind more than MaxBytes, one too far: error %d", int(e))
	}
}

func TestP6_3OrderInOneToken(t *testing.T) {
	all := api.Token{Length: api.MaxBytes + 1, Distance: 9, Byte: 1}
	expandRefuses(t, "x", api.ErrArg, all)
	lengthTells(t, 0, api.ErrArg, all)
	expandRefuses(t, "x", api.ErrArg, api.Token{Length: 1, Distance: 9, Byte: 1})
	expandRefuses(t, "x", api.ErrArg, api.Token{Length: api.MaxBytes + 1, Distance: 1, Byte: 1})
	expandRefuses(t, "x", api.ErrArg, api.Token{Length: api.MaxBytes + 1})
	expandRefuses(t, "x", api.ErrArg, api.Token{Distance: 9})
	expandRefuses(t, "x", api.ErrBack, piece(api.MaxBytes+1, 9))
	lengthTells(t, 0, api.ErrBig, piece(api.MaxBytes+1, 9))
	expandRefuses(t, "x", api.ErrBig, piece(api.MaxBytes+1, 1))
}

func TestP6_3OrderInTwoTokens(t *testing.T) {
	wrong := []struct {
		t       api.Token
		e, ofLn api.Errno
	}{
		{api.Token{Length: 1}, api.ErrArg, api.ErrArg},
		{piece(1, math.MaxInt), api.ErrBack, api.OK},
		{piece(api.MaxBytes+1, 1), api.ErrBig, api.ErrBig},
	}
	for _, first := range wrong {
		for _, second := range wrong {
			expandRefuses(t, "x", first.e, first.t, second.t)
			expandRefuses(t, "x", first.e, single('a'), piece(3, 1), first.t, single('b'), second.t)
			want := first.ofLn
			if want == api.OK {
				want = second.ofLn
			}
			if want != api.OK {
				lengthTells(t, 0, want, first.t, second.t)
				lengthTells(t, 0, want, single('a'), first.t, single('b'), second.t)
			}
		}
	}
	// of a byte that is one too many, and a token behind it that may not be, the byte is told
	expandRefuses(t, "x", api.ErrBig, piece(api.MaxBytes, 1), single('a'), api.Token{Length: 1})
	lengthTells(t, 0, api.ErrBig, piece(api.MaxBytes, 1), single('a'), api.Token{Length: 1})
	expandRefuses(t, "x", api.ErrArg, piece(api.MaxBytes, 1), api.Token{Length: 1}, single('a'))
	expandRefuses(t, "x", api.ErrBack, piece(api.MaxBytes, 1), piece(1, api.MaxBytes+2), single('a'))
}

func TestP6_3ExpandOfManyTokens(t *testing.T) {
	r := rand.New(rand.NewSource(63))
	for range 2000 {
		before := randomText(r, r.Intn(20), 256)
		made := 0
		var l []api.Token
		for range r.Intn(20) {
			if len(before)+made == 0 || r.Intn(2) == 0 {
				l = append(l, single(byte(r.Intn(256))))
				made++
				continue
			}
			l = append(l, piece(1+r.Intn(60), 1+r.Intn(len(before)+made)))
			made += l[len(l)-1].Length
		}
		expands(t, string(before), string(expandByWords(before, l)), l...)
	}
}

// checkRest checks P6.4: the tokens make the rest of the text, and none could be longer, or of the same length nearer; those that are bytes could be no piece of at least least.
func checkRest(t *testing.T, name string, b []byte, from, window, least, most int, match func(b []byte, at, window, most int) (int, int)) {
	t.Helper()
	l, e := token.Parse(b, from, window, least, most)
	if e != api.OK {
		t.Fatalf("%s: error %d", name, int(e))
	}
	rest, e := token.Expand(b[:from], l)
	if e != api.OK || !bytes.Equal(rest, b[from:]) {
		t.Fatalf("%s, from %d, window %d, least %d, most %d: another text, error %d", name, from, window, least, most, int(e))
	}
	if n, e := token.Length(l); e != api.OK || n != len(b)-from {
		t.Fatalf("%s: Length %d of %d, error %d", name, n, len(b)-from, int(e))
	}
	at := from
	for _, x := range l {
		n, d := match(b, at, window, most)
		if n < least {
			n, d = 0, 0
		}
		if x.Length != n || x.Distance != d || x.Length > 0 && x.Byte != 0 {
			t.Fatalf("%s, from %d, window %d, least %d, most %d: at %d %v, want %d, %d", name, from, window, least, most, at, x, n, d)
		}
		at += max(1, x.Length)
	}
}

func TestP6_4(t *testing.T) {
	r := rand.New(rand.NewSource(64))
	for range 300 {
		b := repeating(r, r.Intn(1500)+1, 1+r.Intn(5))
		least := 1 + r.Intn(12)
		checkRest(t, "a text that repeats", b, r.Intn(len(b)+1), 1+r.Intn(len(b)+3), least, least+r.Intn(300), matchByWords)
	}
	for name, b := range hardTexts(3000) {
		for _, window := range []int{1, 2, 257, math.MaxInt} {
			for _, x := range [][2]int{{1, 1}, {1, 7}, {1, math.MaxInt}, {2, 273}, {3, 258}, {9, 9}, {33, math.MaxInt}} {
				checkRest(t, name, b, r.Intn(70), window, x[0], x[1], matchByWords)
			}
		}
	}
}

// byMatch is Match, for texts that are too long for the words alone.
func byMatch(b []byte, at, window, most int) (int, int) {
	n, d, _ := token.Match(b, at, window, most)
	return n, d
}

func TestP6_4OfLongTexts(t *testing.T) {
	r := rand.New(rand.NewSource(65))
	b := slices.Concat(repeating(r, 90000, 6), randomText(r, 30000, 3), repeating(r, 90000, 250))
	for _, x := range []struct{ from, window, least, most int }{
		{0, 700, 3, 258}, {5, 1, 1, 9}, {70000, 9000, 1, 273}, {100, 32768, 3, 258}, {150000, math.MaxInt, 2, math.MaxInt}, {len(b) - 40, 32768, 3, 258},
	} {
		checkRest(t, "a long text", b, x.from, x.window, x.least, x.most, byMatch)
	}
}

// P6.4: rests that are short beside what stands ahead of them, one behind the other, as those of a packed text's blocks are.
func TestP6_4OfShortRests(t *testing.T) {
	r := rand.New(rand.NewSource(66))
	for _, b := range [][]byte{repeating(r, 90000, 200), randomText(r, 90000, 256), randomText(r, 90000, 2), make([]byte, 90000)} {
		for _, size := range []int{1, 2, 3, 63, 64, 65, 300, 511, 512, 513, 700} {
			for from := 40000; from < 40000+5*size; from += size {
				checkRest(t, "a part", b[:from+size], from, 32768, 3, 258, byMatch)
			}
		}
	}
	b := slices.Concat(randomText(r, 32768, 256), randomText(r, 200000, 256))
	for from := 32768; from+100 <= len(b); from += 100 {
		if l, e := token.Parse(b[:from+100], from, 32768, 3, 258); e != api.OK || len(l) == 0 {
			t.Fatal(len(l), int(e))
		}
	}
}

func TestEachCallEndsSoon(t *testing.T) {
	for name, b := range hardTexts(1 << 18) {
		for _, x := range []struct{ window, least, most int }{
			{math.MaxInt, 1, math.MaxInt}, {math.MaxInt, 9, math.MaxInt}, {32768, 3, 258}, {1, 1, 1},
		} {
			l, e := token.Parse(b, 0, x.window, x.least, x.most)
			if e != api.OK {
				t.Errorf("Parse of a text %s: error %d", name, int(e))
			}
			if rest, e := token.Expand(nil, l); e != api.OK || !bytes.Equal(rest, b) {
				t.Errorf("a text %s, %v: another one, error %d", name, x, int(e))
			}
		}
		for at := 0; at < len(b); at += len(b) / 20 {
			n, d, e := token.Match(b, at, math.MaxInt, math.MaxInt)
			if e != api.OK || n > len(b)-at || d > at || !bytes.Equal(b[at:at+n], b[at-d:at-d+n]) {
				t.Errorf("Match in a text %s, at %d = %d, %d, error %d", name, at, n, d, int(e))
			}
		}
	}
}

// within tells a text with spare room behind it that would go on with its pieces, and whether any of its memory has changed.
func within(text, spare string) (b []byte, same func() bool) {
	memory := []byte(text + spare)
	return memory[:len(text)], func() bool { return string(memory) == text+spare }
}

func TestNothingHandedInIsChangedOrReadBeyond(t *testing.T) {
	b, same := within("abcabcab", "cabcabc")
	if n, d, e := token.Match(b, 3, 9, 99); n != 5 || d != 3 || e != api.OK || !same() {
		t.Error("Match:", n, d, int(e), same())
	}
	if l, e := token.Parse(b, 3, 9, 1, 99); !slices.Equal(l, []api.Token{piece(5, 3)}) || e != api.OK || !same() {
		t.Error("Parse:", l, int(e), same())
	}
	if l, e := token.Parse(b, 3, 9, 6, 99); len(l) != 5 || e != api.OK || !same() {
		t.Error("Parse:", l, int(e), same())
	}
	tokens := []api.Token{piece(9, 3), single('x'), piece(2, 1), {Length: -1}}
	before := slices.Clone(tokens)
	out, e := token.Expand(b, tokens[:2])
	if string(out) != "cabcabcabx" || e != api.OK || !same() || !slices.Equal(tokens, before) {
		t.Errorf("Expand: %q, error %d", out, int(e))
	}
	if n, e := token.Length(tokens[:3]); n != 12 || e != api.OK || !slices.Equal(tokens, before) {
		t.Error("Length:", n, int(e))
	}
	long, same := within(strings.Repeat("abcdefghi", 200), "abcdefghi")
	if l, e := token.Parse(long, 900, math.MaxInt, 3, math.MaxInt); !slices.Equal(l, []api.Token{piece(900, 9)}) || e != api.OK || !same() {
		t.Error("Parse of a longer text:", l, int(e), same())
	}
}

func TestWhatIsHandedOutIsNew(t *testing.T) {
	b, same := within("abcabc", "abc")
	out, _ := token.Expand(b, []api.Token{piece(3, 3)})
	again, _ := token.Expand(b, []api.Token{piece(3, 3)})
	for i := range out[:cap(out)] {
		out[:cap(out)][i] = 'z'
	}
	if !same() || string(again) != "abc" {
		t.Errorf("what Expand handed out is not its own: %q, %q", b, again)
	}
	first, _ := token.Parse(b, 0, 9, 2, 9)
	second, _ := token.Parse(b, 0, 9, 2, 9)
	for i := range first[:cap(first)] {
		first[:cap(first)][i] = single('z')
	}
	if !slices.Equal(second, []api.Token{single('a'), single('b'), single('c'), piece(3, 3)}) {
		t.Error("two answers of Parse share memory:", second)
	}
}

func TestNothingIsKept(t *testing.T) {
	b := []byte("abcabcabcd")
	first, _ := token.Parse(b, 3, 9, 2, 9)
	copy(b, "xyzxyzxyzw")
	if second, _ := token.Parse([]byte("abcabcabcd"), 3, 9, 2, 9); !slices.Equal(first, second) {
		t.Error("the same text, other tokens:", first, second)
	}
	b = []byte("abc")
	out, _ := token.Expand(b, []api.Token{piece(5, 3)})
	copy(b, "xyz")
	if string(out) != "abcab" {
		t.Errorf("what was told has changed: %q", out)
	}
}
