package runs_test

import (
	"bytes"
	"math"
	"math/rand"
	"slices"
	"strings"
	"testing"

	"hamper/api"
	"hamper/runs"
)

// cut tells what of a list an error shows.
func cut[T any](l []T) []T { return l[:min(len(l), 40)] }

// roomy copies a list into memory with more behind it.
func roomy[T any](l []T, behind ...T) []T {
	return append(slices.Clone(l), behind...)[:len(l)]
}

// same is whether a list, and what is behind it, is as roomy left it.
func same[T comparable](given, l []T, behind ...T) bool {
	return slices.Equal(given[:len(l)+len(behind)], append(slices.Clone(l), behind...))
}

// roomyBytes and sameBytes have behind the bytes what would lengthen a run, and what a number may be.
func roomyBytes(b []byte) []byte { return roomy(b, 0, 97, 255) }

func sameBytes(given, b []byte) bool { return same(given, b, 0, 97, 255) }

// roomyInts and sameInts have behind the numbers what would lengthen a run, and what may not be.
func roomyInts(l []int) []int { return roomy(l, 0, 1, -1) }

func sameInts(given, l []int) bool { return same(given, l, 0, 1, -1) }

// The calls, each of them with room behind what is handed in, which must stay as it was.

func pack(t *testing.T, b []byte) []byte {
	t.Helper()
	given := roomyBytes(b)
	packed := runs.Pack(given)
	if !sameBytes(given, b) {
		t.Fatalf("Pack(%q, %d bytes) changed what was handed in", cut(b), len(b))
	}
	return packed
}

func unpack(t *testing.T, b []byte, most int) ([]byte, api.Errno) {
	t.Helper()
	given := roomyBytes(b)
	text, e := runs.Unpack(given, most)
	if !sameBytes(given, b) || e != api.OK && len(text) != 0 {
		t.Fatalf("Unpack(%q, %d) = %q, %v, or it changed what was handed in", cut(b), most, cut(text), e)
	}
	return text, e
}

func front(t *testing.T, b []byte) ([]byte, []int) {
	t.Helper()
	given := roomyBytes(b)
	used, places := runs.Front(given)
	if !sameBytes(given, b) {
		t.Fatalf("Front(%q, %d bytes) changed what was handed in", cut(b), len(b))
	}
	return used, places
}

func unfront(t *testing.T, used []byte, places []int) ([]byte, api.Errno) {
	t.Helper()
	givenUsed, givenPlaces := roomyBytes(used), roomyInts(places)
	text, e := runs.Unfront(givenUsed, givenPlaces)
	if !sameBytes(givenUsed, used) || !sameInts(givenPlaces, places) || e != api.OK && len(text) != 0 {
		t.Fatalf("Unfront(%q, %v) = %q, %v, or it changed what was handed in", cut(used), cut(places), cut(text), e)
	}
	return text, e
}

func symbols(t *testing.T, places []int, n int) ([]int, api.Errno) {
	t.Helper()
	given := roomyInts(places)
	l, e := runs.Symbols(given, n)
	if !sameInts(given, places) || e != api.OK && len(l) != 0 {
		t.Fatalf("Symbols(%v, %d) = %v, %v, or it changed what was handed in", cut(places), n, cut(l), e)
	}
	return l, e
}

func places(t *testing.T, symbols []int, n, most int) ([]int, api.Errno) {
	t.Helper()
	given := roomyInts(symbols)
	l, e := runs.Places(given, n, most)
	if !sameInts(given, symbols) || e != api.OK && len(l) != 0 {
		t.Fatalf("Places(%v, %d, %d) = %v, %v, or it changed what was handed in", cut(symbols), n, most, cut(l), e)
	}
	return l, e
}

// The calls, held against the model.

func checkPack(t *testing.T, b []byte) {
	t.Helper()
	if packed, want := pack(t, b), packByWords(b); !bytes.Equal(packed, want) {
		t.Fatalf("Pack(%q, %d bytes) = %q, want %q", cut(b), len(b), cut(packed), cut(want))
	}
}

func checkUnpack(t *testing.T, b []byte, most int) {
	t.Helper()
	text, e := unpack(t, b, most)
	if want, wantE := unpackByWords(b, most); !bytes.Equal(text, want) || e != wantE {
		t.Fatalf("Unpack(%q, %d) = %q, %v, want %q, %v", cut(b), most, cut(text), e, cut(want), wantE)
	}
}

// checkUnpackAtMost asks with each most up to what comes out, and with more.
func checkUnpackAtMost(t *testing.T, b []byte) {
	t.Helper()
	for most := -1; most <= len(b)+1; most++ {
		checkUnpack(t, b, most)
	}
	if text, e := unpackByWords(b, math.MaxInt); e == api.OK {
		checkUnpack(t, b, len(text)-1)
		checkUnpack(t, b, len(text))
		checkUnpack(t, b, len(text)+1)
	}
	checkUnpack(t, b, math.MaxInt)
}

func checkFront(t *testing.T, b []byte) {
	t.Helper()
	used, l := front(t, b)
	if wantUsed, want := frontByWords(b); !bytes.Equal(used, wantUsed) || !slices.Equal(l, want) {
		t.Fatalf("Front(%q, %d bytes) = %q, %v, want %q, %v", cut(b), len(b), used, cut(l), wantUsed, cut(want))
	}
}

func checkUnfront(t *testing.T, used []byte, places []int) {
	t.Helper()
	text, e := unfront(t, used, places)
	if want, wantE := unfrontByWords(used, places); !bytes.Equal(text, want) || e != wantE {
		t.Fatalf("Unfront(%q, %v) = %q, %v, want %q, %v", used, cut(places), cut(text), e, cut(want), wantE)
	}
}

func checkSymbols(t *testing.T, places []int, n int) {
	t.Helper()
	l, e := symbols(t, places, n)
	if want, wantE := symbolsByWords(places, n); !slices.Equal(l, want) || e != wantE {
		t.Fatalf("Symbols(%v, %d) = %v, %v, want %v, %v", cut(places), n, cut(l), e, cut(want), wantE)
	}
}

func checkPlaces(t *testing.T, symbols []int, n, most int) {
	t.Helper()
	l, e := places(t, symbols, n, most)
	if want, wantE := placesByWords(symbols, n, most); !slices.Equal(l, want) || e != wantE {
		t.Fatalf("Places(%v, %d, %d) = %v, %v, want %v, %v", cut(symbols), n, most, cut(l), e, cut(want), wantE)
	}
}

// checkPlacesAtMost asks with no most, with many, and with those about what comes out.
func checkPlacesAtMost(t *testing.T, symbols []int, n int) {
	t.Helper()
	for _, most := range []int{-1, 0, 1, 2, 3, 5, 9, 1 << 22} {
		checkPlaces(t, symbols, n, most)
	}
	if l, e := placesByWords(symbols, n, 1<<22); e == api.OK {
		checkPlaces(t, symbols, n, len(l)-1)
		checkPlaces(t, symbols, n, len(l))
		checkPlaces(t, symbols, n, len(l)+1)
	}
}

// eachList tells all lists of those letters that have at most so many.
func eachList[T any](letters []T, most int, tell func(l []T)) {
	var grow func(l []T)
	grow = func(l []T) {
		tell(slices.Clone(l))
		if len(l) == most {
			return
		}
		for _, x := range letters {
			grow(append(l, x))
		}
	}
	grow(nil)
}

// randomText is of so many bytes, each of them one of so many from a first one on.
func randomText(r *rand.Rand, size, first, letters int) []byte {
	b := make([]byte, size)
	for i := range b {
		b[i] = byte(first + r.Intn(letters))
	}
	return b
}

// randomRuns is a text of so many runs, each of at most so many bytes; bytes of one run behind the other may be like.
func randomRuns(r *rand.Rand, count, longest, letters int) []byte {
	var b []byte
	for range count {
		b = append(b, bytes.Repeat([]byte{byte(250 + r.Intn(letters))}, 1+r.Intn(longest))...)
	}
	return b
}

// randomInts is of so many numbers, each of them one of so many from a first one on.
func randomInts(r *rand.Rand, size, first, count int) []int {
	l := make([]int, size)
	for i := range l {
		l[i] = first + r.Intn(count)
	}
	return l
}

// noughtful is of so many places below n, most of them 0.
func noughtful(r *rand.Rand, size, n int) []int {
	l := make([]int, size)
	for i := range l {
		if r.Intn(10) == 0 {
			l[i] = r.Intn(n)
		}
	}
	return l
}

// all256 is the text of all bytes, from 255 down.
func all256() []byte {
	b := make([]byte, 256)
	for i := range b {
		b[i] = byte(255 - i)
	}
	return b
}

func TestExamples(t *testing.T) {
	if b := pack(t, []byte("aaaaaa")); string(b) != "aaaa\x02" {
		t.Errorf("Pack(aaaaaa) = %q", b)
	}
	if b := pack(t, []byte("aaaa")); string(b) != "aaaa\x00" {
		t.Errorf("Pack(aaaa) = %q", b)
	}
	if _, e := unpack(t, []byte("aaaa"), 9); e != api.ErrEnd {
		t.Errorf("Unpack(aaaa, 9): %v", e)
	}
	if used, l := front(t, []byte("banana")); string(used) != "abn" || !slices.Equal(l, []int{1, 1, 2, 1, 1, 1}) {
		t.Errorf("Front(banana) = %q, %v", used, l)
	}
	if l, e := symbols(t, []int{0, 0, 0, 2}, 3); !slices.Equal(l, []int{0, 0, 3, 4}) || e != api.OK {
		t.Errorf("Symbols(0 0 0 2, 3) = %v, %v", l, e)
	}
	if l, e := symbols(t, []int{0, 0}, 1); !slices.Equal(l, []int{1, 2}) || e != api.OK {
		t.Errorf("Symbols(0 0, 1) = %v, %v", l, e)
	}
	if l, e := symbols(t, nil, 1); !slices.Equal(l, []int{2}) || e != api.OK {
		t.Errorf("Symbols(nothing, 1) = %v, %v", l, e)
	}
	if l, e := places(t, []int{0, 0, 3, 4}, 3, 9); !slices.Equal(l, []int{0, 0, 0, 2}) || e != api.OK {
		t.Errorf("Places(0 0 3 4, 3, 9) = %v, %v", l, e)
	}
}

func TestP11_1Runs(t *testing.T) {
	a := func(n int) string { return strings.Repeat("a", n) }
	for _, c := range []struct{ text, want string }{
		{"", ""}, {"a", "a"}, {"aa", "aa"}, {"aaa", "aaa"}, {a(4), "aaaa\x00"}, {a(5), "aaaa\x01"},
		{a(258), "aaaa\xfe"}, {a(259), "aaaa\xff"}, {a(260), "aaaa\xffa"}, {a(262), "aaaa\xffaaa"}, {a(263), "aaaa\xffaaaa\x00"}, {a(264), "aaaa\xffaaaa\x01"},
		{a(518), "aaaa\xffaaaa\xff"}, {a(519), "aaaa\xffaaaa\xffa"},
		{"aaabbbb", "aaabbbb\x00"}, {"aaaabbb", "aaaa\x00bbb"}, {"abababab", "abababab"}, {"aaabaaa", "aaabaaa"},
		{"aaaa\x00", "aaaa\x00\x00"}, {"aaaa\x00\x00\x00\x00", "aaaa\x00\x00\x00\x00\x00\x00"}, {"\x00\x00\x00\x00", "\x00\x00\x00\x00\x00"}, {"\x04\x04\x04\x04\x04\x04\x04\x04", "\x04\x04\x04\x04\x04"},
		{strings.Repeat("\xff", 259) + "\xfe", "\xff\xff\xff\xff\xff\xfe"}, {strings.Repeat("\x80", 300), "\x80\x80\x80\x80\xff\x80\x80\x80\x80\x25"},
	} {
		if b := pack(t, []byte(c.text)); string(b) != c.want {
			t.Errorf("Pack(%q, %d bytes) = %q, want %q", cut([]byte(c.text)), len(c.text), b, c.want)
		}
	}
	for n := range 1100 {
		b := bytes.Repeat([]byte{byte(n)}, n)
		checkPack(t, b)
		checkPack(t, append(append([]byte{byte(n + 1)}, b...), byte(n+1)))
	}
}

func TestP11_1ManyTexts(t *testing.T) {
	eachList([]byte("ab"), 12, func(b []byte) { checkPack(t, b) })
	eachList([]byte("\x00\x01\xff"), 8, func(b []byte) { checkPack(t, b) })
	r := rand.New(rand.NewSource(111))
	for range 1000 {
		checkPack(t, randomText(r, r.Intn(300), r.Intn(256), 1+r.Intn(3)))
		checkPack(t, randomText(r, r.Intn(300), 0, 256))
		checkPack(t, randomRuns(r, r.Intn(40), 9, 3))
		checkPack(t, randomRuns(r, r.Intn(12), 600, 2))
	}
}

func TestP11_2Runs(t *testing.T) {
	for _, c := range []struct {
		packed string
		most   int
		want   string
		e      api.Errno
	}{
		{"", 0, "", api.OK}, {"", -1, "", api.ErrArg}, {"", math.MinInt, "", api.ErrArg}, {"", math.MaxInt, "", api.OK},
		{"a", 1, "a", api.OK}, {"a", 0, "", api.ErrBig}, {"a", -1, "", api.ErrArg}, {"aaa", 3, "aaa", api.OK}, {"aaa", 2, "", api.ErrBig},
		{"aaaa\x00", 4, "aaaa", api.OK}, {"aaaa\x00", 3, "", api.ErrBig}, {"aaaa\x02", 6, "aaaaaa", api.OK}, {"aaaa\x02", 5, "", api.ErrBig}, {"aaaa\x02", 4, "", api.ErrBig},
		{"aaaa\xff", 259, strings.Repeat("a", 259), api.OK}, {"aaaa\xff", 258, "", api.ErrBig}, {"aaaa\xff", math.MaxInt, strings.Repeat("a", 259), api.OK},
		{"aaaa\x02b", 7, "aaaaaab", api.OK}, {"aaaa\x02b", 6, "", api.ErrBig}, {"baaaa\x01", 6, "baaaaa", api.OK}, {"aaabbbb\x00", 7, "aaabbbb", api.OK},
		{"aaaa", 4, "", api.ErrEnd}, {"aaaa", math.MaxInt, "", api.ErrEnd}, {"baaaa", 9, "", api.ErrEnd}, {"aaaa\x00aaaa", 99, "", api.ErrEnd}, {"aaaa\x01bbbb", 99, "", api.ErrEnd},
		// behind a number it begins anew, also where the number is a byte like those
		{"aaaa\x00aaaa\x01", 99, "aaaaaaaaa", api.OK}, {"aaaa\x00aaa", 99, "aaaaaaa", api.OK}, {"aaaa\x00a", 99, "aaaaa", api.OK},
		{"\x01\x01\x01\x01\x01\x01\x01\x01", 99, strings.Repeat("\x01", 8), api.OK}, {strings.Repeat("\x00", 9), 99, "", api.ErrEnd}, {strings.Repeat("\x00", 10), 8, strings.Repeat("\x00", 8), api.OK},
		{"\x03\x03\x03\x03\x03\x03\x03\x03", 99, strings.Repeat("\x03", 10), api.OK}, {"aaaaaaaa", 104, strings.Repeat("a", 104), api.OK}, {"aaaaa", 100, "", api.ErrBig},
		{"aaaa\x01bbb\x01", 99, "aaaaabbb\x01", api.OK}, {"\x02\x02\x02aaaa\x02\x02\x02\x02\x02\x00", 99, "\x02\x02\x02aaaaaa\x02\x02\x02\x02", api.OK},
		// what no call of Pack writes: a run that goes on behind its number
		{"aaaa\x00aaaa\x00aaaa\x00", 12, "aaaaaaaaaaaa", api.OK}, {"aaaa\x00aaaa\x00aaaa\x00", 11, "", api.ErrBig}, {"aaaa\xffaaaa\xffa", 519, strings.Repeat("a", 519), api.OK},
	} {
		if text, e := unpack(t, []byte(c.packed), c.most); string(text) != c.want || e != c.e {
			t.Errorf("Unpack(%q, %d) = %q, %v, want %q, %v", c.packed, c.most, text, e, c.want, c.e)
		}
	}
}

// ErrArg comes first; of the others the one that is told at an earlier byte.
func TestP11_2ErrorsInOrder(t *testing.T) {
	for _, c := range []struct {
		packed string
		most   int
		want   api.Errno
	}{
		{"aaaa", -1, api.ErrArg}, {"aaaa\x05", -1, api.ErrArg}, {"aaaa\x05bbbb", math.MinInt, api.ErrArg},
		{"aaaa", 0, api.ErrBig}, {"aaaa", 3, api.ErrBig}, {"aaaa", 4, api.ErrEnd}, {"aaaa", 5, api.ErrEnd},
		{"aaaa\x05bbbb", 8, api.ErrBig}, {"aaaa\x05bbbb", 9, api.ErrBig}, {"aaaa\x05bbbb", 12, api.ErrBig}, {"aaaa\x05bbbb", 13, api.ErrEnd},
		{"aaaa\xffbbbb", 262, api.ErrBig}, {"aaaa\xffbbbb", 263, api.ErrEnd},
	} {
		if _, e := unpack(t, []byte(c.packed), c.most); e != c.want {
			t.Errorf("Unpack(%q, %d): %v, want %v", c.packed, c.most, e, c.want)
		}
	}
}

func TestP11_2ManyTexts(t *testing.T) {
	eachList([]byte{0, 1}, 11, func(b []byte) { checkUnpackAtMost(t, b) })
	eachList([]byte{0, 5, 255}, 7, func(b []byte) { checkUnpackAtMost(t, b) })
	r := rand.New(rand.NewSource(112))
	for range 1000 {
		checkUnpackAtMost(t, randomText(r, r.Intn(60), r.Intn(256), 1+r.Intn(2)))
		checkUnpackAtMost(t, randomRuns(r, r.Intn(8), 12, 2))
		checkUnpackAtMost(t, pack(t, randomRuns(r, r.Intn(6), 300, 3)))
	}
}

func TestP11_3Texts(t *testing.T) {
	down, up := make([]int, 256), make([]int, 256)
	rising := make([]byte, 256)
	for i := range 256 {
		down[i], up[i] = 255, i
		rising[i] = byte(i)
	}
	for _, c := range []struct {
		text, used string
		want       []int
	}{
		{"", "", nil}, {"x", "x", []int{0}}, {"xxx", "x", []int{0, 0, 0}}, {"\x00", "\x00", []int{0}}, {"\xff\x00", "\x00\xff", []int{1, 1}}, {"\x00\xff", "\x00\xff", []int{0, 1}},
		{"\x80\x7f\x80\x80", "\x7f\x80", []int{1, 1, 1, 0}}, {"cab", "abc", []int{2, 1, 2}}, {"abcabc", "abc", []int{0, 1, 2, 2, 2, 2}}, {"mississippi", "imps", []int{1, 1, 3, 0, 1, 1, 0, 1, 3, 0, 1}},
		{"\xff\xfe\xff\x01\x00\x01", "\x00\x01\xfe\xff", []int{3, 3, 1, 3, 3, 1}},
		{string(all256()), string(rising), down}, {string(rising), string(rising), up},
	} {
		if used, l := front(t, []byte(c.text)); string(used) != c.used || !slices.Equal(l, c.want) {
			t.Errorf("Front(%q) = %q, %v, want %q, %v", c.text, used, l, c.used, c.want)
		}
	}
}

func TestP11_3ManyTexts(t *testing.T) {
	eachList([]byte("ab"), 11, func(b []byte) { checkFront(t, b) })
	eachList([]byte("\xff\x80\x7f\x00"), 6, func(b []byte) { checkFront(t, b) })
	for c := range 256 {
		checkFront(t, []byte{byte(c)})
		checkFront(t, []byte{byte(c), byte(c + 1), byte(c + 128), byte(c), byte(c + 1)})
	}
	r := rand.New(rand.NewSource(113))
	checkFront(t, slices.Concat(all256(), all256()))
	for range 600 {
		checkFront(t, randomText(r, r.Intn(300), r.Intn(256), 1+r.Intn(8)))
		checkFront(t, randomText(r, r.Intn(600), 0, 256))
		checkFront(t, randomRuns(r, r.Intn(30), 20, 6))
	}
}

func TestP11_4Places(t *testing.T) {
	for _, c := range []struct {
		used   string
		places []int
		want   string
		e      api.Errno
	}{
		{"", nil, "", api.OK}, {"a", nil, "", api.OK}, {"abc", nil, "", api.OK}, {"", []int{0}, "", api.ErrArg}, {"", []int{-1}, "", api.ErrArg},
		{"abn", []int{1, 1, 2, 1, 1, 1}, "banana", api.OK}, {"x", []int{0, 0, 0}, "xxx", api.OK}, {"x", []int{1}, "", api.ErrArg}, {"x", []int{0, 0, 1}, "", api.ErrArg},
		// bytes that never come
		{"abc", []int{0, 0}, "aa", api.OK}, {"abc", []int{2}, "c", api.OK}, {"\x00\x7f\x80\xff", []int{3, 3, 3, 3, 3}, "\xff\x80\x7f\x00\xff", api.OK},
		{"ba", nil, "", api.ErrArg}, {"ba", []int{0}, "", api.ErrArg}, {"aa", nil, "", api.ErrArg}, {"aa", []int{0, 1}, "", api.ErrArg}, {"abb", []int{0}, "", api.ErrArg}, {"acb", []int{0}, "", api.ErrArg}, {"aba", []int{0}, "", api.ErrArg}, {"\xff\x00", []int{0}, "", api.ErrArg}, {"\x80\x7f", []int{0}, "", api.ErrArg},
		{"ab", []int{0, -1}, "", api.ErrArg}, {"ab", []int{-1, 0}, "", api.ErrArg}, {"ab", []int{0, 2}, "", api.ErrArg}, {"ab", []int{0, 1, 0, 1, 3}, "", api.ErrArg}, {"ab", []int{math.MaxInt}, "", api.ErrArg}, {"ab", []int{math.MinInt}, "", api.ErrArg}, {"ab", []int{256}, "", api.ErrArg}, {"ab", []int{1 << 32}, "", api.ErrArg},
		{"ba", []int{5}, "", api.ErrArg}, {"aa", []int{-1}, "", api.ErrArg},
	} {
		if text, e := unfront(t, []byte(c.used), c.places); string(text) != c.want || e != c.e {
			t.Errorf("Unfront(%q, %v) = %q, %v, want %q, %v", c.used, c.places, text, e, c.want, c.e)
		}
	}
}

// All bytes are used, and lists that have more bytes than there are.
func TestP11_4AllBytes(t *testing.T) {
	rising := all256()
	slices.Reverse(rising)
	last := slices.Repeat([]int{255}, 256)
	if text, e := unfront(t, rising, last); !bytes.Equal(text, all256()) || e != api.OK {
		t.Errorf("Unfront of all bytes, 255 at each place = %v, %v", cut(text), e)
	}
	for _, used := range [][]byte{all256(), append(rising, 0), append(rising, 255), append(rising, rising...), make([]byte, 1000)} {
		for _, l := range [][]int{nil, {0}, {255}, {256}} {
			if _, e := unfront(t, used, l); e != api.ErrArg {
				t.Errorf("Unfront of %d bytes that do not rise, %v: %v", len(used), l, e)
			}
		}
	}
	if _, e := unfront(t, rising, []int{256}); e != api.ErrArg {
		t.Errorf("Unfront of all bytes, 256: %v", e)
	}
}

func TestP11_4ManyPlaces(t *testing.T) {
	eachList([]byte("\x00\x80\xff"), 4, func(used []byte) {
		eachList([]int{-1, 0, 1, 2, 3}, 3, func(l []int) { checkUnfront(t, used, l) })
	})
	eachList([]int{0, 1, 2, 3}, 6, func(l []int) { checkUnfront(t, []byte("\x01\x7f\xc8"), l) })
	r := rand.New(rand.NewSource(114))
	for range 1000 {
		used, _ := frontByWords(randomText(r, r.Intn(300), r.Intn(256), 1+r.Intn(256)))
		l := randomInts(r, r.Intn(300), 0, max(1, len(used)))
		checkUnfront(t, used, l)
		if len(l) > 0 {
			l[r.Intn(len(l))] += []int{-1, 1, len(used), -len(used)}[r.Intn(4)]
			checkUnfront(t, used, l)
		}
		if len(used) > 1 {
			i := 1 + r.Intn(len(used)-1)
			used[i] = used[r.Intn(i)]
			checkUnfront(t, used, l)
		}
	}
}

func TestP11_5Runs(t *testing.T) {
	for k, want := range [][]int{{}, {0}, {1}, {0, 0}, {1, 0}, {0, 1}, {1, 1}, {0, 0, 0}, {1, 0, 0}, {0, 1, 0}, {1, 1, 0}, {0, 0, 1}, {1, 0, 1}, {0, 1, 1}, {1, 1, 1}, {0, 0, 0, 0}, {1, 0, 0, 0}} {
		noughts := make([]int, k)
		for _, c := range []struct{ given, want []int }{
			{noughts, slices.Concat(want, []int{4})},
			{slices.Concat([]int{2}, noughts), slices.Concat([]int{3}, want, []int{4})},
			{slices.Concat(noughts, []int{1}), slices.Concat(want, []int{2, 4})},
			{slices.Concat(noughts, []int{2}, noughts, []int{1, 2}, noughts), slices.Concat(want, []int{3}, want, []int{2, 3}, want, []int{4})},
		} {
			if l, e := symbols(t, c.given, 3); !slices.Equal(l, c.want) || e != api.OK {
				t.Errorf("Symbols(%v, 3) = %v, %v, want %v", c.given, l, e, c.want)
			}
		}
	}
}

// Each list of symbols 0 and 1 is worth another number: there is one way.
func TestP11_5EachRun(t *testing.T) {
	eachList([]int{0, 1}, 12, func(run []int) {
		want := append(slices.Clone(run), 2)
		if l, e := symbols(t, make([]int, worthByWords(run)), 1); !slices.Equal(l, want) || e != api.OK {
			t.Errorf("Symbols of %d places 0 = %v, %v, want %v", worthByWords(run), l, e, want)
		}
	})
	for _, k := range []int{1<<20 - 2, 1<<20 - 1, 1 << 20, 1<<21 - 2, 1<<21 - 1, 1 << 21, 3_000_001} {
		checkSymbols(t, make([]int, k), 1)
	}
}

func TestP11_5Edges(t *testing.T) {
	for _, c := range []struct {
		places []int
		n      int
		want   []int
		e      api.Errno
	}{
		{nil, 1, []int{2}, api.OK}, {nil, 256, []int{257}, api.OK}, {[]int{0}, 1, []int{0, 2}, api.OK}, {[]int{255}, 256, []int{256, 257}, api.OK}, {[]int{255, 0, 0, 1}, 256, []int{256, 1, 2, 257}, api.OK},
		{[]int{1}, 2, []int{2, 3}, api.OK}, {[]int{1, 1, 1}, 2, []int{2, 2, 2, 3}, api.OK},
		{nil, 0, nil, api.ErrArg}, {nil, 257, nil, api.ErrArg}, {nil, -1, nil, api.ErrArg}, {nil, math.MaxInt, nil, api.ErrArg}, {nil, math.MinInt, nil, api.ErrArg}, {nil, 1 << 32, nil, api.ErrArg}, {[]int{0}, 0, nil, api.ErrArg}, {[]int{0}, 257, nil, api.ErrArg}, {[]int{256}, 257, nil, api.ErrArg},
		{[]int{1}, 1, nil, api.ErrArg}, {[]int{-1}, 1, nil, api.ErrArg}, {[]int{256}, 256, nil, api.ErrArg}, {[]int{0, 1, 2}, 2, nil, api.ErrArg}, {[]int{0, -1, 0}, 2, nil, api.ErrArg}, {[]int{math.MaxInt}, 256, nil, api.ErrArg}, {[]int{math.MinInt}, 256, nil, api.ErrArg}, {[]int{0, 0, 0, 3}, 3, nil, api.ErrArg},
		{[]int{-1}, 0, nil, api.ErrArg}, {[]int{300}, 257, nil, api.ErrArg},
	} {
		if l, e := symbols(t, c.places, c.n); !slices.Equal(l, c.want) || e != c.e {
			t.Errorf("Symbols(%v, %d) = %v, %v, want %v, %v", c.places, c.n, l, e, c.want, c.e)
		}
	}
}

func TestP11_5ManyPlaces(t *testing.T) {
	for n := range 5 {
		eachList([]int{0, 1, 2}, 7, func(l []int) { checkSymbols(t, l, n) })
		eachList([]int{-1, 0, 3}, 5, func(l []int) { checkSymbols(t, l, n) })
	}
	r := rand.New(rand.NewSource(115))
	for range 1500 {
		n := 1 + r.Intn(256)
		checkSymbols(t, randomInts(r, r.Intn(200), 0, n), n)
		l := noughtful(r, 1+r.Intn(400), n)
		checkSymbols(t, l, n)
		l[r.Intn(len(l))] = []int{-1, n, n + 1, n - 1}[r.Intn(4)]
		checkSymbols(t, l, n)
	}
	for n := 1; n <= 256; n++ {
		checkSymbols(t, []int{0, n - 1, n - 1, 0, 0}, n)
	}
}

func TestP11_6Edges(t *testing.T) {
	for _, c := range []struct {
		symbols []int
		n, most int
		want    []int
		e       api.Errno
	}{
		{[]int{2}, 1, 0, nil, api.OK}, {[]int{257}, 256, 0, nil, api.OK}, {[]int{0, 2}, 1, 1, []int{0}, api.OK}, {[]int{256, 257}, 256, 1, []int{255}, api.OK}, {[]int{2, 3}, 2, math.MaxInt, []int{1}, api.OK},
		{[]int{1, 3, 0, 0, 4}, 3, 6, []int{0, 0, 2, 0, 0, 0}, api.OK}, {[]int{1, 3, 0, 0, 4}, 3, 5, nil, api.ErrBig}, {[]int{1, 1, 1, 2}, 1, 14, make([]int, 14), api.OK}, {[]int{1, 1, 1, 2}, 1, 13, nil, api.ErrBig},
		{[]int{2, 2, 3}, 2, 2, []int{1, 1}, api.OK}, {[]int{2, 2, 3}, 2, 1, nil, api.ErrBig}, {[]int{2, 3}, 2, 0, nil, api.ErrBig}, {[]int{0, 3}, 2, 0, nil, api.ErrBig}, {[]int{3}, 2, 0, nil, api.OK},
		{[]int{2}, 0, 9, nil, api.ErrArg}, {[]int{2}, -1, 9, nil, api.ErrArg}, {[]int{258}, 257, 9, nil, api.ErrArg}, {[]int{2}, math.MaxInt, 9, nil, api.ErrArg}, {[]int{2}, math.MinInt, 9, nil, api.ErrArg}, {[]int{2}, 1 << 32, 9, nil, api.ErrArg}, {[]int{2}, 1, -1, nil, api.ErrArg}, {[]int{2}, 1, math.MinInt, nil, api.ErrArg},
		{nil, 1, 9, nil, api.ErrEnd}, {[]int{0}, 1, 9, nil, api.ErrEnd}, {[]int{2, 0, 1}, 3, 9, nil, api.ErrEnd}, {[]int{2, 2}, 3, 9, nil, api.ErrEnd},
		{[]int{2, 2}, 1, 9, nil, api.ErrTail}, {[]int{2, 0}, 1, 9, nil, api.ErrTail}, {[]int{2, -1}, 1, 9, nil, api.ErrTail}, {[]int{0, 2, 3, 9}, 1, 9, nil, api.ErrTail},
		{[]int{-1}, 1, 9, nil, api.ErrForm}, {[]int{3}, 1, 9, nil, api.ErrForm}, {[]int{0, -1, 2}, 1, 9, nil, api.ErrForm}, {[]int{0, 3, 2}, 1, 9, nil, api.ErrForm}, {[]int{258, 257}, 256, 9, nil, api.ErrForm}, {[]int{math.MaxInt}, 256, 9, nil, api.ErrForm}, {[]int{math.MinInt}, 256, 9, nil, api.ErrForm}, {[]int{1 << 32, 2}, 1, 9, nil, api.ErrForm},
	} {
		if l, e := places(t, c.symbols, c.n, c.most); !slices.Equal(l, c.want) || e != c.e {
			t.Errorf("Places(%v, %d, %d) = %v, %v, want %v, %v", c.symbols, c.n, c.most, l, e, c.want, c.e)
		}
	}
}

// Runs of 20 symbols are read, those of 21 are none, also where another run was ahead.
func TestP11_6LongRuns(t *testing.T) {
	for _, symbol := range []int{0, 1} {
		run := slices.Repeat([]int{symbol}, 20)
		k := (symbol + 1) * (1<<20 - 1)
		l, e := places(t, append(slices.Clone(run), 3), 2, k)
		if !slices.Equal(l, make([]int, k)) || e != api.OK {
			t.Errorf("20 symbols %d: %d places, %v", symbol, len(l), e)
		}
		l, e = places(t, slices.Concat(run, []int{2}, run, []int{3}), 2, 2*k+1)
		if !slices.Equal(l, slices.Concat(make([]int, k), []int{1}, make([]int, k))) || e != api.OK {
			t.Errorf("20 symbols %d, twice: %d places, %v", symbol, len(l), e)
		}
		for _, c := range []struct {
			behind []int
			most   int
			want   api.Errno
		}{
			{[]int{3}, k - 1, api.ErrBig}, {[]int{2, 3}, k, api.ErrBig}, {nil, 0, api.ErrBig}, {nil, k - 1, api.ErrBig}, {nil, k, api.ErrEnd}, {[]int{-1}, k - 1, api.ErrBig}, {[]int{4}, k, api.ErrForm}, {[]int{3, 3}, k - 1, api.ErrBig},
			{[]int{0, 3}, math.MaxInt, api.ErrForm}, {[]int{1, 3}, math.MaxInt, api.ErrForm}, {[]int{0}, math.MaxInt, api.ErrForm}, {[]int{1, 1, 3}, math.MaxInt, api.ErrForm},
			// the 21st symbol stands ahead of the run's end, whatever most is
			{[]int{0, 3}, 0, api.ErrForm}, {[]int{0}, 0, api.ErrForm}, {[]int{1}, k - 1, api.ErrForm}, {[]int{0, 0, 0, -1}, 0, api.ErrForm}, {slices.Concat([]int{2}, run, []int{0}), k - 1, api.ErrBig},
			{slices.Concat([]int{2}, run, []int{0, 3}), math.MaxInt, api.ErrForm}, {slices.Concat([]int{2}, run, []int{1, 3}), k + 1, api.ErrForm},
		} {
			if _, e := places(t, slices.Concat(run, c.behind), 2, c.most); e != c.want {
				t.Errorf("20 symbols %d, then %v, most %d: %v, want %v", symbol, cut(c.behind), c.most, e, c.want)
			}
		}
	}
}

// ErrArg comes first; of the others the one that is told earlier. That a run is too many is told at its end, ahead of what stands, or lacks, behind it.
func TestP11_6ErrorsInOrder(t *testing.T) {
	for _, c := range []struct {
		symbols []int
		n, most int
		want    api.Errno
	}{
		{nil, 0, -1, api.ErrArg}, {nil, 0, 9, api.ErrArg}, {nil, 1, -1, api.ErrArg}, {[]int{-1}, 257, 9, api.ErrArg}, {[]int{-1}, 3, -1, api.ErrArg}, {[]int{4, 4}, 3, -1, api.ErrArg}, {[]int{2, 2, 4}, 3, -1, api.ErrArg},
		{nil, 3, 0, api.ErrEnd}, {[]int{1, 1}, 3, 5, api.ErrBig}, {[]int{1, 1}, 3, 6, api.ErrEnd}, {[]int{0}, 3, 0, api.ErrBig}, {[]int{0}, 3, 1, api.ErrEnd}, {[]int{2, 0}, 3, 1, api.ErrBig}, {[]int{2, 0}, 3, 2, api.ErrEnd},
		{[]int{1, 1, -1}, 3, 5, api.ErrBig}, {[]int{1, 1, -1}, 3, 6, api.ErrForm}, {[]int{1, 1, 5}, 3, 5, api.ErrBig}, {[]int{1, 1, 5}, 3, 6, api.ErrForm}, {[]int{1, 1, 5, 4}, 3, 0, api.ErrBig}, {[]int{1, 1, 5, 4}, 3, 6, api.ErrForm},
		{[]int{1, 1, 4, 4}, 3, 5, api.ErrBig}, {[]int{1, 1, 4, 4}, 3, 6, api.ErrTail}, {[]int{0, 4, -1}, 3, 0, api.ErrBig}, {[]int{0, 4, -1}, 3, 1, api.ErrTail}, {[]int{0, 4, 0}, 3, 1, api.ErrTail},
		{[]int{1, 1, 4}, 3, 5, api.ErrBig}, {[]int{1, 1, 2}, 3, 5, api.ErrBig}, {[]int{1, 1, 2, -1}, 3, 5, api.ErrBig},
		{[]int{2, 2}, 3, 1, api.ErrBig}, {[]int{2, 2, -1}, 3, 1, api.ErrBig}, {[]int{2, 2, 5}, 3, 1, api.ErrBig}, {[]int{2, 2, 4, 4}, 3, 1, api.ErrBig},
		{[]int{2, -1, 2}, 3, 1, api.ErrForm}, {[]int{2, 4, 2}, 3, 1, api.ErrTail}, {[]int{2, 5, 4, 4}, 3, 0, api.ErrBig},
		{[]int{-1, 4, 4}, 3, 9, api.ErrForm}, {[]int{4, -1}, 3, 9, api.ErrTail},
	} {
		if _, e := places(t, c.symbols, c.n, c.most); e != c.want {
			t.Errorf("Places(%v, %d, %d): %v, want %v", c.symbols, c.n, c.most, e, c.want)
		}
	}
}

// A run that is one too many, and one that is just not, with all that may stand ahead of it and behind it.
func TestP11_6RunsOneTooMany(t *testing.T) {
	for _, ahead := range [][]int{nil, {2}, {3, 2}, {1, 0, 3}, {0, 2, 1, 2}} {
		before, _ := placesByWords(append(slices.Clone(ahead), 4), 3, math.MaxInt)
		eachList([]int{0, 1}, 6, func(run []int) {
			if len(run) == 0 {
				return
			}
			count := len(before) + worthByWords(run)
			for _, c := range []struct {
				behind []int
				want   api.Errno
			}{
				{nil, api.ErrEnd}, {[]int{-1}, api.ErrForm}, {[]int{5}, api.ErrForm}, {[]int{math.MinInt, 4}, api.ErrForm}, {[]int{math.MaxInt, 4}, api.ErrForm},
				{[]int{4, 4}, api.ErrTail}, {[]int{4, 0}, api.ErrTail}, {[]int{4, -1}, api.ErrTail}, {[]int{2}, api.ErrBig}, {[]int{3, -1}, api.ErrBig}, {[]int{4}, api.OK},
			} {
				l := slices.Concat(ahead, run, c.behind)
				if _, e := places(t, l, 3, count-1); e != api.ErrBig {
					t.Errorf("Places(%v, 3, %d): %v, want %v", l, count-1, e, api.ErrBig)
				}
				if _, e := places(t, l, 3, count); e != c.want {
					t.Errorf("Places(%v, 3, %d): %v, want %v", l, count, e, c.want)
				}
			}
		})
	}
}

func TestP11_6ManySymbols(t *testing.T) {
	for n := range 4 {
		eachList([]int{0, 1, 2, 3, 4}, 5, func(l []int) { checkPlacesAtMost(t, l, n) })
		eachList([]int{-1, 0, 1, n, n + 1, n + 2}, 4, func(l []int) { checkPlacesAtMost(t, l, n) })
	}
	r := rand.New(rand.NewSource(116))
	for range 1500 {
		n := 1 + r.Intn(256)
		l := randomInts(r, 1+r.Intn(60), 0, n+1)
		checkPlacesAtMost(t, append(l, n+1), n)
		l[r.Intn(len(l))] = []int{-1, n, n + 1, n + 2}[r.Intn(4)]
		checkPlacesAtMost(t, append(l, n+1), n)
		checkPlacesAtMost(t, l, n)
	}
	for range 60 {
		var l []int
		for range 2 + r.Intn(6) {
			l = append(append(l, randomInts(r, r.Intn(16), 0, 2)...), 2)
		}
		checkPlacesAtMost(t, append(l, 3), 2)
		checkPlacesAtMost(t, l, 2)
	}
	for size := range 24 {
		checkPlaces(t, append(randomInts(r, size, 0, 2), 2), 1, 1<<22)
		checkPlaces(t, append(randomInts(r, size, 0, 2), 2), 1, r.Intn(1<<22))
	}
}

// checkAgain asks for a text of what was written of it, and of its places.
func checkAgain(t *testing.T, b []byte) {
	t.Helper()
	if text, e := unpack(t, pack(t, b), len(b)); !bytes.Equal(text, b) || e != api.OK {
		t.Fatalf("Unpack of Pack(%q, %d bytes) = %q, %v", cut(b), len(b), cut(text), e)
	}
	used, l := front(t, b)
	if text, e := unfront(t, used, l); !bytes.Equal(text, b) || e != api.OK {
		t.Fatalf("Unfront of Front(%q, %d bytes) = %q, %v", cut(b), len(b), cut(text), e)
	}
	if len(used) > 0 {
		checkPlacesAgain(t, l, len(used))
	}
}

// checkPlacesAgain asks for places of their symbols.
func checkPlacesAgain(t *testing.T, l []int, n int) {
	t.Helper()
	written, e := symbols(t, l, n)
	if e != api.OK {
		t.Fatalf("Symbols(%v, %d): %v", cut(l), n, e)
	}
	if again, e := places(t, written, n, len(l)); !slices.Equal(again, l) || e != api.OK {
		t.Fatalf("Places of Symbols(%v, %d) = %v, %v", cut(l), n, cut(again), e)
	}
}

func TestP11_7(t *testing.T) {
	eachList([]byte("ab"), 12, func(b []byte) { checkAgain(t, b) })
	eachList([]byte("\x00\x01\x80\xff"), 6, func(b []byte) { checkAgain(t, b) })
	for n := range 800 {
		checkAgain(t, bytes.Repeat([]byte{byte(n)}, n))
	}
	checkAgain(t, all256())
	r := rand.New(rand.NewSource(117))
	for range 500 {
		checkAgain(t, randomText(r, r.Intn(3000), 0, 256))
		checkAgain(t, randomText(r, r.Intn(3000), r.Intn(256), 1+r.Intn(4)))
		checkAgain(t, randomRuns(r, r.Intn(60), 500, 5))
		n := 1 + r.Intn(256)
		checkPlacesAgain(t, randomInts(r, r.Intn(1000), 0, n), n)
		checkPlacesAgain(t, noughtful(r, r.Intn(1000), n), n)
	}
	for n := 1; n <= 256; n++ {
		checkPlacesAgain(t, []int{n - 1, 0, 0, n / 2, n - 1, 0}, n)
	}
}

// Texts as long as a block of bzip2 may be, and longer; the greatest run of places 0 that 20 symbols are worth.
func TestP11_7LongTexts(t *testing.T) {
	r := rand.New(rand.NewSource(118))
	for _, size := range []int{900_000, 3 << 20} {
		checkAgain(t, randomText(r, size, 0, 256))
		checkAgain(t, randomText(r, size, 255, 2))
	}
	checkAgain(t, make([]byte, 1<<21-2))
	checkAgain(t, bytes.Repeat(all256(), 4000))
	checkPlacesAgain(t, make([]int, 1<<21-2), 1)
}

// Each call ends soon, also where few symbols or bytes stand for more than any memory has, and an error is behind them.
func TestLongInputsWithErrors(t *testing.T) {
	run := append(slices.Repeat([]int{1}, 20), 2)
	l := slices.Repeat(run, 50_000)
	for _, c := range []struct {
		behind []int
		want   api.Errno
	}{{nil, api.ErrEnd}, {[]int{-1}, api.ErrForm}, {[]int{3, 3}, api.ErrTail}, {slices.Repeat([]int{0}, 21), api.ErrForm}} {
		if _, e := runs.Places(slices.Concat(l, c.behind), 2, math.MaxInt); e != c.want {
			t.Errorf("Places of many runs, behind them %v: %v, want %v", cut(c.behind), e, c.want)
		}
	}
	if _, e := runs.Places(append(slices.Clone(l), 3), 2, 50_000*(1<<21-1)-1); e != api.ErrBig {
		t.Errorf("Places of many runs, one too few: %v", e)
	}
	b := bytes.Repeat([]byte("aaaa\xff"), 1_000_000)
	if _, e := runs.Unpack(append(b, "bbbb"...), math.MaxInt); e != api.ErrEnd {
		t.Errorf("Unpack of many runs without the last number: %v", e)
	}
	if _, e := runs.Unpack(b, 259_000_000-1); e != api.ErrBig {
		t.Errorf("Unpack of many runs, one too few: %v", e)
	}
}

func TestNothing(t *testing.T) {
	for _, none := range [][]byte{nil, {}} {
		if b := runs.Pack(none); len(b) != 0 {
			t.Errorf("Pack of nothing = %q", b)
		}
		if b, e := runs.Unpack(none, 0); len(b) != 0 || e != api.OK {
			t.Errorf("Unpack of nothing = %q, %v", b, e)
		}
		if used, l := runs.Front(none); len(used) != 0 || len(l) != 0 {
			t.Errorf("Front of nothing = %q, %v", used, l)
		}
		for _, l := range [][]int{nil, {}} {
			if b, e := runs.Unfront(none, l); len(b) != 0 || e != api.OK {
				t.Errorf("Unfront of nothing = %q, %v", b, e)
			}
			if l, e := runs.Symbols(l, 256); !slices.Equal(l, []int{257}) || e != api.OK {
				t.Errorf("Symbols of nothing = %v, %v", l, e)
			}
			if _, e := runs.Places(l, 256, 0); e != api.ErrEnd {
				t.Errorf("Places of nothing: %v", e)
			}
		}
	}
}

// fill sets all of a list's memory.
func fill[T any](l []T, x T) {
	l = l[:cap(l)]
	for i := range l {
		l[i] = x
	}
}

// checkNew asks twice for the same: neither what is done to one answer nor what is done to what was handed in is seen in the other answer.
func checkNew[T, U comparable](t *testing.T, name string, given []T, otherT T, otherU U, call func([]T) []U) {
	t.Helper()
	kept := slices.Clone(given)
	first, second := call(given), call(given)
	want := slices.Clone(first)
	fill(second, otherU)
	if !slices.Equal(given, kept) || !slices.Equal(first, want) {
		t.Errorf("%s(%v): what is told is part of what was handed in, or of another answer", name, cut(kept))
	}
	fill(given, otherT)
	if !slices.Equal(first, want) {
		t.Errorf("%s(%v): what was handed in is part of what is told", name, cut(kept))
	}
}

// Rule 4: what is handed out is no part of what was handed in, and of no other answer.
func TestWhatIsToldIsNew(t *testing.T) {
	for _, text := range []string{"", "x", "abc", "aaaa", "banana", "aaaa\x00b", string(all256())} {
		used, l := runs.Front([]byte(text))
		n := max(1, len(used))
		written, _ := runs.Symbols(l, n)
		b := []byte(text)
		packed := runs.Pack(b)
		checkNew(t, "Pack", roomyBytes(b), 9, 8, runs.Pack)
		checkNew(t, "Pack", slices.Clip(bytes.Clone(b)), 9, 8, runs.Pack)
		checkNew(t, "Unpack", roomyBytes(packed), 9, 8, func(b []byte) []byte { text, _ := runs.Unpack(b, 999); return text })
		checkNew(t, "Front, used", roomyBytes(b), 9, 8, func(b []byte) []byte { used, _ := runs.Front(b); return used })
		checkNew(t, "Front, places", roomyBytes(b), 9, 8, func(b []byte) []int { _, l := runs.Front(b); return l })
		checkNew(t, "Unfront, used", roomyBytes(used), 9, 8, func(used []byte) []byte { text, _ := runs.Unfront(used, l); return text })
		checkNew(t, "Unfront, places", roomyInts(l), 9, 8, func(l []int) []byte { text, _ := runs.Unfront(used, l); return text })
		checkNew(t, "Symbols", roomyInts(l), 9, 8, func(l []int) []int { s, _ := runs.Symbols(l, n); return s })
		checkNew(t, "Places", roomyInts(written), 9, 8, func(s []int) []int { l, _ := runs.Places(s, n, 999); return l })
	}
}

// Rule 5: calls that run side by side tell what they tell alone.
func TestSideBySide(t *testing.T) {
	r := rand.New(rand.NewSource(119))
	done := make(chan bool)
	for range 8 {
		b := randomRuns(r, 300, 400, 6)
		go func() {
			alike := true
			for range 5 {
				text, _ := runs.Unpack(runs.Pack(b), len(b))
				used, l := runs.Front(b)
				written, _ := runs.Symbols(l, len(used))
				again, _ := runs.Places(written, len(used), len(b))
				other, _ := runs.Unfront(used, again)
				alike = alike && bytes.Equal(text, b) && bytes.Equal(other, b)
			}
			done <- alike
		}()
	}
	for range 8 {
		if !<-done {
			t.Error("another text")
		}
	}
}
