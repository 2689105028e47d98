package bzip2_test

import (
	"bytes"
	library "compress/bzip2"
	"encoding/hex"
	"io"
	"math"
	"math/rand"
	"slices"
	"strings"
	"testing"

	"hamper/api"
	"hamper/bzip2"
	"hamper/limit"
	"hamper/runs"
)

// cut tells what of bytes an error shows.
func cut(b []byte) []byte { return b[:min(len(b), 60)] }

// behind is what lies in the room behind bytes that are handed in: bytes that go on like them, and a whole stream.
const behind = "aa\x00\xff\x17BZh9\x17\x72\x45\x38\x50\x90\x00\x00\x00\x00"

// roomy copies bytes into memory with more behind them.
func roomy(b []byte) []byte { return slices.Concat(b, []byte(behind))[:len(b)] }

// stayed is whether bytes, and the room behind them, are as roomy made them.
func stayed(given, b []byte) bool {
	return bytes.Equal(given[:len(b)+len(behind)], slices.Concat(b, []byte(behind)))
}

// pieces asks for a text's pieces, and whether what was handed in, and the room behind it, stayed as it was.
func pieces(t *testing.T, b []byte, level int) ([][]byte, api.Errno) {
	t.Helper()
	given := roomy(b)
	l, e := bzip2.Blocks(given, level)
	if !stayed(given, b) {
		t.Errorf("Blocks(%q (%d), %d) changed what was handed in", cut(b), len(b), level)
	}
	if e != api.OK && len(l) != 0 {
		t.Errorf("Blocks(%q (%d), %d) tells %d pieces beside %v", cut(b), len(b), level, len(l), e)
	}
	return l, e
}

// made asks for a text's packed bytes, and whether what was handed in, and the room behind it, stayed as it was.
func made(t *testing.T, b []byte, level int) ([]byte, api.Errno) {
	t.Helper()
	given := roomy(b)
	packed, e := bzip2.Make(given, level)
	if !stayed(given, b) {
		t.Errorf("Make(%q (%d), %d) changed what was handed in", cut(b), len(b), level)
	}
	if e != api.OK && len(packed) != 0 {
		t.Errorf("Make(%q (%d), %d) tells % x beside %v", cut(b), len(b), level, cut(packed), e)
	}
	return packed, e
}

// read asks for the text of packed bytes, and whether what was handed in, and the room behind it, stayed as it was.
func read(t *testing.T, b []byte, most int) ([]byte, api.Errno) {
	t.Helper()
	given := roomy(b)
	text, e := bzip2.Read(given, most)
	if !stayed(given, b) {
		t.Errorf("Read(% x (%d), %d) changed what was handed in", cut(b), len(b), most)
	}
	if e != api.OK && len(text) != 0 {
		t.Errorf("Read(% x (%d), %d) tells %q beside %v", cut(b), len(b), most, cut(text), e)
	}
	return text, e
}

// sizes tells how long pieces are.
func sizes(l [][]byte) []int {
	var n []int
	for _, piece := range l {
		n = append(n, len(piece))
	}
	return n
}

// checkBlocks asks for a text's pieces as the model tells them, and tells how long they are.
func checkBlocks(t *testing.T, b []byte, level int) []int {
	t.Helper()
	l, e := pieces(t, b, level)
	want, wantE := blocksByWords(b, level)
	if e != wantE || !slices.EqualFunc(l, want, bytes.Equal) {
		t.Errorf("Blocks(%q (%d), %d) = pieces of %v, %v, want %v, %v", cut(b), len(b), level, sizes(l), e, sizes(want), wantE)
	}
	return sizes(l)
}

// checkMake asks for a text's packed bytes as the model tells them.
func checkMake(t *testing.T, b []byte, level int) []byte {
	t.Helper()
	packed, e := made(t, b, level)
	want, wantE := makeByWords(b, level)
	if e != wantE || !bytes.Equal(packed, want) {
		t.Errorf("Make(%q (%d), %d) = % x (%d), %v, want % x (%d), %v", cut(b), len(b), level, cut(packed), len(packed), e, cut(want), len(want), wantE)
	}
	return packed
}

// check asks for a text and an error that are given, of the model, too.
func check(t *testing.T, name string, b []byte, most int, want []byte, wantE api.Errno) {
	t.Helper()
	if text, e := readByWords(b, most); e != wantE || !bytes.Equal(text, want) {
		t.Errorf("%s: the model tells %q (%d), %v, want %q (%d), %v", name, cut(text), len(text), e, cut(want), len(want), wantE)
	}
	if text, e := read(t, b, most); e != wantE || !bytes.Equal(text, want) {
		t.Errorf("%s: Read(% x (%d), %d) = %q (%d), %v, want %q (%d), %v", name, cut(b), len(b), most, cut(text), len(text), e, cut(want), len(want), wantE)
	}
}

func checkTells(t *testing.T, name string, b []byte, want string) {
	t.Helper()
	check(t, name, b, api.MaxBytes, []byte(want), api.OK)
}

func checkFails(t *testing.T, name string, b []byte, want api.Errno) {
	t.Helper()
	check(t, name, b, api.MaxBytes, nil, want)
}

// checkModel asks for what the model tells, whatever that is.
func checkModel(t *testing.T, b []byte, most int) api.Errno {
	t.Helper()
	want, wantE := readByWords(b, most)
	if text, e := read(t, b, most); e != wantE || !bytes.Equal(text, want) {
		t.Errorf("Read(% x (%d), %d) = %q (%d), %v, want %q (%d), %v", b[:min(len(b), 200)], len(b), most, cut(text), len(text), e, cut(want), len(want), wantE)
	}
	return wantE
}

// checkLibrary asks whether others tell the same text.
func checkLibrary(t *testing.T, packed, want []byte) {
	t.Helper()
	text, err := io.ReadAll(library.NewReader(bytes.NewReader(packed)))
	if err != nil || !bytes.Equal(text, want) {
		t.Errorf("others tell of % x (%d): %q (%d), %v, want %q (%d)", cut(packed), len(packed), cut(text), len(text), err, cut(want), len(want))
	}
}

// mustMake is packed bytes that another test looks at.
func mustMake(b string, level int) []byte {
	packed, e := bzip2.Make([]byte(b), level)
	failIf(e != api.OK, e)
	return packed
}

var wrongLevels = []int{0, 10, -1, -9, 11, 49, 256, 257, math.MinInt, math.MaxInt, 1 - 1<<32, 1 + 1<<32, 1<<63 - 1}

func TestExamples(t *testing.T) {
	empty := []byte("BZh9\x17\x72\x45\x38\x50\x90\x00\x00\x00\x00")
	if b, e := made(t, nil, 9); !bytes.Equal(b, empty) || e != api.OK {
		t.Errorf("Make of nothing = % x, %v", b, e)
	}
	checkTells(t, "of nothing", empty, "")
	checkFails(t, "BZh9", []byte("BZh9"), api.ErrEnd)
	checkFails(t, "BZh0", append([]byte("BZh0"), empty[4:]...), api.ErrKind)
	checkFails(t, "BZh0 alone", []byte("BZh0"), api.ErrKind)
	checkFails(t, "nothing", nil, api.ErrEnd)
	if sum := bzip2.Sum([]uint32{1, 1}); sum != 3 {
		t.Errorf("Sum(1, 1) = %d", sum)
	}
}

func TestP12_1Levels(t *testing.T) {
	for level := 1; level <= 9; level++ {
		for _, text := range []string{"", "a", "aaaaa", "banana"} {
			checkBlocks(t, []byte(text), level)
		}
	}
	for _, level := range wrongLevels {
		for _, text := range []string{"", "a", "banana"} {
			if l, e := pieces(t, []byte(text), level); e != api.ErrArg {
				t.Errorf("Blocks(%q, %d) = %v, %v", text, level, sizes(l), e)
			}
			if b, e := made(t, []byte(text), level); e != api.ErrArg {
				t.Errorf("Make(%q, %d) = % x, %v", text, level, b, e)
			}
		}
	}
}

// A block's room is 100000 times the level, less 19: a text without runs just fills it, or has one byte too many.
func TestP12_1Room(t *testing.T) {
	for level := 1; level <= 9; level++ {
		room := 100000*level - 19
		text := unlike(2*room + 1)
		if len(runs.Pack(text)) != len(text) {
			t.Fatal("a text with runs")
		}
		for _, c := range []struct {
			size int
			want []int
		}{{room - 1, []int{room - 1}}, {room, []int{room}}, {room + 1, []int{room, 1}}, {2 * room, []int{room, room}}, {2*room + 1, []int{room, room, 1}}} {
			l, e := pieces(t, text[:c.size], level)
			if e != api.OK || !slices.Equal(sizes(l), c.want) || !bytes.Equal(slices.Concat(l...), text[:c.size]) {
				t.Errorf("Blocks of %d bytes, %d: %v, %v, want %v", c.size, level, sizes(l), e, c.want)
			}
		}
	}
}

// Where a run reaches over the end of a block's room, as many of its bytes are in the piece as still have room; from the next piece on it is another run.
func TestP12_1RunAtTheEnd(t *testing.T) {
	const room = 99981
	for _, c := range []struct{ ahead, run, first int }{
		{room - 1, 2, room}, {room - 1, 300, room}, {room - 2, 9, room}, {room - 3, 3, room}, {room - 3, 9, room},
		{room - 4, 4, room - 1}, {room - 4, 9, room - 1}, // the fourth byte and the number lack one byte of room
		{room - 5, 4, room - 1}, {room - 5, 5, room}, {room - 5, 9, room + 4}, {room - 5, 259, room + 254}, {room - 5, 260, room + 254}, {room - 5, 900, room + 254},
		{room - 6, 259, room + 253}, {room - 6, 260, room + 254}, {room - 6, 261, room + 254},
		{room - 8, 263, room + 254}, {room - 9, 262, room + 253}, {room - 9, 263, room + 253}, {room - 10, 518, room + 508}, {room - 10, 519, room + 508},
	} {
		text := slices.Concat(unlike(c.ahead), bytes.Repeat([]byte("z"), c.run))
		got := checkBlocks(t, text, 1)
		if got[0] != min(c.first, len(text)) {
			t.Errorf("%d bytes and a run of %d: pieces of %v, want first %d", c.ahead, c.run, got, c.first)
		}
		checkBlocks(t, append(text, "end"...), 1)
	}
	for ahead := room - 12; ahead <= room+1; ahead++ {
		for _, run := range []int{1, 2, 3, 4, 5, 6, 7, 8, 258, 259, 260, 261, 262, 263, 264, 265} {
			checkBlocks(t, slices.Concat(unlike(ahead), bytes.Repeat([]byte("z"), run), []byte("ab")), 1)
		}
	}
}

// One byte value alone: a piece is much longer than its room.
func TestP12_1OneValue(t *testing.T) {
	text := make([]byte, 11_000_000)
	const first = 19996*259 + 1
	if got := checkBlocks(t, text, 1); !slices.Equal(got, []int{first, first, 11_000_000 - 2*first}) {
		t.Errorf("Blocks of zeroes, 1: %v", got)
	}
	if got := checkBlocks(t, text[:first], 1); !slices.Equal(got, []int{first}) {
		t.Errorf("Blocks of just enough zeroes, 1: %v", got)
	}
	if got := checkBlocks(t, text[:first+1], 1); !slices.Equal(got, []int{first, 1}) {
		t.Errorf("Blocks of one zero more, 1: %v", got)
	}
	if got := checkBlocks(t, text, 3); !slices.Equal(got, []int{11_000_000}) {
		t.Errorf("Blocks of zeroes, 3: %v", got)
	}
}

func TestP12_1ManyTexts(t *testing.T) {
	r := rand.New(rand.NewSource(121))
	for range 60 {
		b := inRuns(r, 20_000+r.Intn(60_000), 1+r.Intn(12), 1+r.Intn(6))
		checkBlocks(t, b, 1+r.Intn(3))
	}
	for range 5 {
		checkBlocks(t, inRuns(r, 40_000, 400, 3), 1)
		checkBlocks(t, letters(r, 500_000, 0, 256), 1+r.Intn(9))
	}
}

// The greatest text is cut, and packed; one byte more is too much, but a wrong level goes ahead of that.
func TestMaxBytes(t *testing.T) {
	text := make([]byte, api.MaxBytes+1)
	for _, level := range []int{1, 9} {
		if l, e := bzip2.Blocks(text, level); len(l) != 0 || e != api.ErrBig {
			t.Errorf("Blocks of too much: %d pieces, %v", len(l), e)
		}
		if b, e := bzip2.Make(text, level); len(b) != 0 || e != api.ErrBig {
			t.Errorf("Make of too much: %d bytes, %v", len(b), e)
		}
	}
	for _, level := range []int{0, 10} {
		if _, e := bzip2.Blocks(text, level); e != api.ErrArg {
			t.Errorf("Blocks of too much, %d: %v", level, e)
		}
		if _, e := bzip2.Make(text, level); e != api.ErrArg {
			t.Errorf("Make of too much, %d: %v", level, e)
		}
	}
	text = text[:api.MaxBytes]
	packed, e := bzip2.Make(text, 9)
	if e != api.OK {
		t.Fatalf("Make of %d bytes: %v", len(text), e)
	}
	again, e := bzip2.Read(slices.Concat(packed, mustMake("", 1)), api.MaxBytes)
	if e != api.OK || !bytes.Equal(again, text) {
		t.Errorf("Read of Make of %d bytes and an empty stream: %d, %v", len(text), len(again), e)
	}
	if again, e = bzip2.Read(slices.Concat(packed, mustMake("a", 1)), api.MaxBytes); e != api.ErrBig || len(again) != 0 {
		t.Errorf("Read of Make of %d bytes and another stream: %d, %v", len(text), len(again), e)
	}
}

func TestP12_2Sums(t *testing.T) {
	for _, c := range []struct {
		blocks []uint32
		want   uint32
	}{
		{nil, 0}, {[]uint32{}, 0}, {[]uint32{0}, 0}, {[]uint32{5}, 5}, {[]uint32{math.MaxUint32}, math.MaxUint32},
		{[]uint32{1, 0}, 2}, {[]uint32{1, 1}, 3}, {[]uint32{0, 1}, 1}, {[]uint32{3, 3}, 5},
		{[]uint32{1 << 31, 0}, 1}, {[]uint32{1 << 31, 1}, 0}, {[]uint32{1<<31 | 1, 0}, 3}, {[]uint32{1 << 31, 1 << 31}, 1<<31 | 1},
		{[]uint32{1 << 31, 0, 0}, 2}, {[]uint32{math.MaxUint32, 0, 0}, math.MaxUint32}, {[]uint32{math.MaxUint32, math.MaxUint32}, 0},
		{[]uint32{0x89abcdef, 0x12345678}, 0x13579bdf ^ 0x12345678},
	} {
		if got := bzip2.Sum(c.blocks); got != c.want || sumByWords(c.blocks) != c.want {
			t.Errorf("Sum(%x) = %x, want %x, which the model tells as %x", c.blocks, got, c.want, sumByWords(c.blocks))
		}
	}
}

func TestP12_2ManySums(t *testing.T) {
	r := rand.New(rand.NewSource(122))
	for range 2000 {
		l := make([]uint32, r.Intn(70), 80)
		for i := range l {
			l[i] = r.Uint32() << r.Intn(32) >> r.Intn(32)
		}
		kept := slices.Clone(l[:cap(l)])
		if got, want := bzip2.Sum(l), sumByWords(l); got != want {
			t.Errorf("Sum(%x) = %x, want %x", l, got, want)
		}
		if !slices.Equal(l[:cap(l)], kept) {
			t.Errorf("Sum(%x) changed what was handed in", kept)
		}
	}
}

// Of one byte the bits are told by hand: its column is itself, its place is 0, so its symbols are 0 and the end, 2. Each symbol counts once more than it comes, so the words are 10, 11 and 0.
func TestP12_3OneByte(t *testing.T) {
	const (
		sum   = "00011001100100111001101101101011"
		table = "00010" + "0" + "0" + "110"
	)
	want := bytesOf(headDigits(7) + blockDigits + sum + "0" + "000000000000000000000000" +
		"0000001000000000" + "0100000000000000" +
		"010" + "000000000000001" + "0" + table + table + "10" + "0" + endDigits + sum)
	if got := checkMake(t, []byte("a"), 7); !bytes.Equal(got, want) {
		t.Errorf("Make(a, 7) = % x, want % x", got, want)
	}
}

// What others make of texts whose best tables need no choice.
func TestP12_3AsOthers(t *testing.T) {
	for _, c := range []struct{ text, want string }{
		{"a", "425a683131415926535919939b6b00000001002000200021184682ee48a70a120332736d60"},
		{"aaaaaaaaaaaaaaaaaa", "425a68313141592653597a2a2c0700000241000001200020002100820b1772453850907a2a2c07"},
	} {
		if got := checkMake(t, []byte(c.text), 1); !bytes.Equal(got, fromHex(c.want)) {
			t.Errorf("Make(%q, 1) = %x, want %s", c.text, got, c.want)
		}
	}
}

// fromHex tells bytes that are given to the base 16.
func fromHex(s string) []byte {
	b, err := hex.DecodeString(s)
	failIf(err != nil, -1)
	return b
}

func TestP12_3Texts(t *testing.T) {
	for level := 1; level <= 9; level++ {
		for _, text := range []string{"", "a", "b", "\x00", "\xff", "ab", "ba", "aaa", "aaaa", "aaaaa", "banana", "abababab", "mississippi", strings.Repeat("z", 259), strings.Repeat("z", 260), strings.Repeat("z", 5000), "\x00\x0f\x10\x1f\x20\xef\xf0\xff"} {
			checkLibrary(t, checkMake(t, []byte(text), level), []byte(text))
		}
	}
	reversed := all256()
	slices.Reverse(reversed)
	for _, text := range [][]byte{all256(), reversed, bytes.Repeat(all256(), 30), slices.Concat(all256(), reversed)} {
		checkLibrary(t, checkMake(t, text, 1), text)
	}
}

// Each byte alone, and each group of 16 alone: which bytes come is told from the highest bit on.
func TestP12_3BytesThatCome(t *testing.T) {
	for c := range 256 {
		text := []byte{byte(c)}
		checkLibrary(t, checkMake(t, text, 1), text)
		text = []byte{byte(c), byte(c * 7), byte(c + 1)}
		checkLibrary(t, checkMake(t, text, 1), text)
	}
}

// symbolCount is how many symbols a text's block has.
func symbolCount(text []byte) int { return len(contentOf(text).symbols) }

// There is a selector for each 50 symbols, and one for those that are left.
func TestP12_3Selectors(t *testing.T) {
	r := rand.New(rand.NewSource(123))
	seen := map[int]bool{}
	for size := range 1600 {
		text := letters(r, 1+size/4, 97, 20)
		n := symbolCount(text)
		seen[n] = true
		b := checkMake(t, text, 1)
		checkLibrary(t, b, text)
		c := contentOf(text)
		at := 4*8 + 48 + 32 + 1 + 24 + len(usedByWords(c.used)) + 3
		if got, want := digitsOf(b)[at:at+15], digits((n+49)/50, 15); got != want {
			t.Errorf("%d symbols: %s selectors, want %s", n, got, want)
		}
	}
	for _, n := range []int{49, 50, 51, 99, 100, 101, 149, 150, 151, 200, 201, 250, 251} {
		if !seen[n] {
			t.Errorf("no text had %d symbols", n)
		}
	}
}

// Where the best words would be longer than 17 bits, those of at most 17 are taken.
func TestP12_3LongWords(t *testing.T) {
	r := rand.New(rand.NewSource(124))
	text := slices.Concat(letters(r, 450_000, 97, 2), all256(), letters(r, 449_000, 97, 2))
	c := contentOf(text)
	often := make([]int, len(c.used)+2)
	for _, symbol := range c.symbols {
		often[symbol]++
	}
	for i := range often {
		often[i]++
	}
	free, _ := limit.Lengths(often, 20)
	bound, _ := limit.Lengths(often, 17)
	if slices.Max(free) <= 17 || slices.Max(bound) != 17 || slices.Min(bound) < 1 {
		t.Fatalf("the longest words have %d and %d bits", slices.Max(free), slices.Max(bound))
	}
	b := checkMake(t, text, 9)
	checkLibrary(t, b, text)
	if again, e := read(t, b, len(text)); e != api.OK || !bytes.Equal(again, text) {
		t.Errorf("Read of it: %d bytes, %v", len(again), e)
	}
}

func TestP12_3SeveralBlocks(t *testing.T) {
	r := rand.New(rand.NewSource(125))
	for _, text := range [][]byte{
		unlike(99981), unlike(99982), letters(r, 250_000, 0, 256), letters(r, 310_000, 97, 3), inRuns(r, 90_000, 9, 4),
		slices.Concat(unlike(99977), bytes.Repeat([]byte("z"), 900)), bytes.Repeat([]byte("ab"), 110_000),
	} {
		b := checkMake(t, text, 1)
		checkLibrary(t, b, text)
		if again, e := read(t, b, len(text)); e != api.OK || !bytes.Equal(again, text) {
			t.Errorf("Read of Make of %q (%d): %d bytes, %v", cut(text), len(text), len(again), e)
		}
		checkLibrary(t, checkMake(t, text, 2), text)
	}
}

func TestP12_3ManyTexts(t *testing.T) {
	r := rand.New(rand.NewSource(126))
	for range 1500 {
		text := someText(r)
		checkLibrary(t, checkMake(t, text, 1+r.Intn(9)), text)
	}
}

// someText is one of many kinds of short texts.
func someText(r *rand.Rand) []byte {
	size := r.Intn(1 + r.Intn(1500))
	switch r.Intn(5) {
	case 0:
		return letters(r, size, 0, 256)
	case 1:
		return letters(r, size, 97, 1+r.Intn(5))
	case 2:
		return inRuns(r, size/5, 1+r.Intn(300), 1+r.Intn(4))
	case 3:
		return bytes.Repeat(letters(r, 1+r.Intn(9), 120, 12), size/5)
	}
	return inRuns(r, size, 1+r.Intn(8), 1+r.Intn(26))
}

func TestP12_4Most(t *testing.T) {
	for _, text := range []string{"", "a", "banana", strings.Repeat("z", 300), "aaaa"} {
		b := mustMake(text, 3)
		n := len(text)
		for _, most := range []int{-1, -2, math.MinInt, api.MaxBytes + 1, math.MaxInt, -api.MaxBytes, 1 << 32} {
			check(t, "most", b, most, nil, api.ErrArg)
			check(t, "most, of nothing", nil, most, nil, api.ErrArg)
			check(t, "most, of no stream", []byte("none"), most, nil, api.ErrArg)
		}
		for most := range n {
			check(t, "too few", b, most, nil, api.ErrBig)
		}
		for _, most := range []int{n, n + 1, 1 << 20, api.MaxBytes - 1, api.MaxBytes} {
			check(t, "enough", b, most, []byte(text), api.OK)
		}
	}
}

// What came out ahead, of blocks and of streams, is no more to be had.
func TestP12_4MostOfAll(t *testing.T) {
	two := streamOf(1, contentOf([]byte("banana")).plain(), contentOf([]byte("zzzzzzz")).plain())
	text := "bananazzzzzzz"
	joined := slices.Concat(mustMake("banana", 1), mustMake("", 9), mustMake("zzzzzzz", 2))
	for most := range 20 {
		for _, b := range [][]byte{two, joined} {
			if most < len(text) {
				check(t, "too few", b, most, nil, api.ErrBig)
			} else {
				check(t, "enough", b, most, []byte(text), api.OK)
			}
		}
	}
	for most := range 6 { // the first stream's text is too much, so the second one is not looked at
		check(t, "no stream behind", slices.Concat(mustMake("banana", 1), []byte("none")), most, nil, api.ErrBig)
	}
	check(t, "no stream behind", slices.Concat(mustMake("banana", 1), []byte("none")), 6, nil, api.ErrForm)
	check(t, "too much behind", slices.Concat(mustMake("banana", 1), mustMake("a", 1)), 6, nil, api.ErrBig)
}

// P12.5: read again, alone and joined.
func TestP12_5(t *testing.T) {
	r := rand.New(rand.NewSource(139))
	for range 1200 {
		first, second := someText(r), someText(r)
		a, b := mustMake(string(first), 1+r.Intn(9)), mustMake(string(second), 1+r.Intn(9))
		checkAgain(t, a, first)
		checkAgain(t, b, second)
		checkAgain(t, slices.Concat(a, b), slices.Concat(first, second))
		checkAgain(t, slices.Concat(b, b, a), slices.Concat(second, second, first))
	}
}

// checkAgain asks for a text that was packed, with just enough room, and with one byte too few.
func checkAgain(t *testing.T, packed, text []byte) {
	t.Helper()
	if got, e := read(t, packed, len(text)); e != api.OK || !bytes.Equal(got, text) {
		t.Errorf("Read(% x (%d)) = %q (%d), %v, want %q (%d)", cut(packed), len(packed), cut(got), len(got), e, cut(text), len(text))
	}
	if got, e := read(t, packed, max(0, len(text)-1)); len(text) > 0 && e != api.ErrBig {
		t.Errorf("Read(% x (%d)), one too few = %q (%d), %v", cut(packed), len(packed), cut(got), len(got), e)
	}
}

// All short texts of two and of three letters.
func TestP12_5ShortTexts(t *testing.T) {
	l := []string{""}
	for len(l) > 0 {
		text := l[0]
		l = l[1:]
		packed := checkMake(t, []byte(text), 1+len(text)%9)
		checkTells(t, "a short text", packed, text)
		letters := "ab\x00"
		if len(text) >= 5 {
			letters = "ab"
		}
		for i := range letters {
			if len(text) < 8 && (len(text) < 5 || !strings.Contains(text, "\x00")) {
				l = append(l, text+letters[i:i+1])
			}
		}
	}
}

func TestP12_5LongTexts(t *testing.T) {
	r := rand.New(rand.NewSource(140))
	for _, text := range [][]byte{
		letters(r, 1_000_000, 0, 256), letters(r, 2_000_000, 97, 2), inRuns(r, 300_000, 7, 5), inRuns(r, 20_000, 1000, 200), make([]byte, 6_000_000),
		bytes.Repeat(all256(), 4000), bytes.Repeat([]byte("abcab"), 150_000), bytes.Repeat([]byte("aaaab"), 200_000), bytes.Repeat([]byte("aaaaaa\x02"), 150_000),
	} {
		for _, level := range []int{1, 9} {
			packed, e := made(t, text, level)
			if e != api.OK {
				t.Errorf("Make of %q (%d), %d: %v", cut(text), len(text), level, e)
			}
			if got, e := read(t, packed, len(text)); e != api.OK || !bytes.Equal(got, text) {
				t.Errorf("Read of Make of %q (%d), %d: %d bytes, %v", cut(text), len(text), level, len(got), e)
			}
			checkLibrary(t, packed, text)
		}
	}
}

// A block's edges: texts that just fill one, have one byte too many, or end in a run.
func TestP12_5Edges(t *testing.T) {
	const room = 99981
	for _, ahead := range []int{room - 5, room - 4, room - 1, room} {
		for _, run := range []int{0, 1, 4, 260} {
			text := slices.Concat(unlike(ahead), bytes.Repeat([]byte("z"), run))
			checkLibrary(t, mustMake(string(text), 1), text)
			checkAgain(t, mustMake(string(text), 1), text)
		}
	}
}

// Many bytes with an error: each call ends soon.
func TestLongInputsWithErrors(t *testing.T) {
	c := content{0, 0, []byte("ab"), slices.Repeat([]int{2}, 50*32767)}
	lengths := []int{3, 3, 1, 2}
	tables := [][]int{lengths, lengths}
	chosen := make([]int, 32767)
	if _, e := read(t, streamOf(9, c.write(tables, chosen)), api.MaxBytes); e != api.ErrForm {
		t.Errorf("as many symbols as there may be, and no end: %v", e)
	}
	c.symbols[len(c.symbols)-1] = 3
	if _, e := read(t, streamOf(9, c.write(tables, chosen)), api.MaxBytes); e != api.ErrBig {
		t.Errorf("as many symbols as there may be: %v", e)
	}
	if _, e := read(t, bytes.Repeat(mustMake("", 1), 200_000)[1:], 0); e != api.ErrForm {
		t.Errorf("no stream at first: %v", e)
	}
	if _, e := read(t, append(bytes.Repeat(mustMake("", 1), 200_000), 'B'), 0); e != api.ErrEnd {
		t.Errorf("many streams, and one byte: %v", e)
	}
	zeroes := mustMake(string(make([]byte, 40_000_000)), 9)
	if _, e := read(t, bytes.Repeat(zeroes, 9), 100_000_000); e != api.ErrBig {
		t.Errorf("few bytes of which very many would come out: %v", e)
	}
}

func TestNothing(t *testing.T) {
	for _, none := range [][]byte{nil, {}} {
		if l, e := bzip2.Blocks(none, 1); len(l) != 0 || e != api.OK {
			t.Errorf("Blocks of nothing: %d, %v", len(l), e)
		}
		for level := 1; level <= 9; level++ {
			want := "BZh" + string(rune('0'+level)) + "\x17\x72\x45\x38\x50\x90\x00\x00\x00\x00"
			if b, e := bzip2.Make(none, level); string(b) != want || e != api.OK {
				t.Errorf("Make of nothing, %d: % x, %v", level, b, e)
			}
			checkTells(t, "nothing", []byte(want), "")
		}
	}
}

// fill sets all of a list's memory.
func fill[T any](l []T, x T) {
	l = l[:cap(l)]
	for i := range l {
		l[i] = x
	}
}

// checkNew asks twice for the same: neither what is done to one answer nor what is done to what was handed in is seen in the other answer.
func checkNew(t *testing.T, name string, given []byte, call func([]byte) []byte) {
	t.Helper()
	kept := bytes.Clone(given)
	first, second := call(given), call(given)
	want := bytes.Clone(first)
	fill(second, 8)
	if !bytes.Equal(given, kept) || !bytes.Equal(first, want) {
		t.Errorf("%s(%q): what is told is part of what was handed in, or of another answer", name, cut(kept))
	}
	fill(given, 9)
	if !bytes.Equal(first, want) {
		t.Errorf("%s(%q): what was handed in is part of what is told", name, cut(kept))
	}
}

// Rule 4: what is handed out is no part of what was handed in, and of no other answer.
func TestWhatIsToldIsNew(t *testing.T) {
	for _, text := range []string{"", "a", "banana", "aaaaaaa", string(unlike(250_000))} {
		checkNew(t, "Make", roomy([]byte(text)), func(b []byte) []byte { packed, _ := bzip2.Make(b, 1); return packed })
		checkNew(t, "Make", []byte(text), func(b []byte) []byte { packed, _ := bzip2.Make(b, 1); return packed })
		packed := mustMake(text, 1)
		checkNew(t, "Read", roomy(packed), func(b []byte) []byte { text, _ := bzip2.Read(b, api.MaxBytes); return text })
		checkNew(t, "Read", packed, func(b []byte) []byte { text, _ := bzip2.Read(b, api.MaxBytes); return text })
		checkNew(t, "Blocks", roomy([]byte(text)), func(b []byte) []byte { l, _ := bzip2.Blocks(b, 1); return slices.Concat(l...) })
	}
}

// Each piece has memory of its own, its spare room too.
func TestPiecesAreNew(t *testing.T) {
	text := unlike(350_000)
	given := roomy(text)
	l, _ := bzip2.Blocks(given, 1)
	want, _ := blocksByWords(text, 1)
	for i := range l {
		fill(l[i], byte(i))
		for j := i + 1; j < len(l); j++ {
			if !bytes.Equal(l[j], want[j]) {
				t.Errorf("piece %d is part of piece %d", j, i)
			}
		}
		for j := range i {
			if slices.ContainsFunc(l[j], func(c byte) bool { return c != byte(j) }) {
				t.Errorf("piece %d is part of piece %d", j, i)
			}
		}
	}
	if !stayed(given, text) {
		t.Error("the pieces are parts of what was handed in")
	}
	l, _ = bzip2.Blocks(given, 1)
	fill(given, 0)
	if !slices.EqualFunc(l, want, bytes.Equal) {
		t.Error("the pieces are parts of what was handed in")
	}
}

// Rule 5: calls that run side by side tell what they tell alone.
func TestSideBySide(t *testing.T) {
	r := rand.New(rand.NewSource(141))
	done := make(chan bool)
	for range 8 {
		text := someText(r)
		go func() {
			alike := true
			for level := 1; level <= 9; level++ {
				packed, _ := bzip2.Make(text, level)
				want, _ := makeByWords(text, level)
				again, _ := bzip2.Read(packed, len(text))
				alike = alike && bytes.Equal(packed, want) && bytes.Equal(again, text)
			}
			done <- alike
		}()
	}
	for range 8 {
		if !<-done {
			t.Error("another text")
		}
	}
}
