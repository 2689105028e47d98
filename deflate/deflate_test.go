package deflate_test

import (
	"bytes"
	"compress/flate"
	"io"
	"math"
	"math/rand"
	"slices"
	"strings"
	"testing"

	"hamper/api"
	"hamper/deflate"
	"hamper/inflate"
	"hamper/token"
)

var allKinds = []int{deflate.Best, deflate.Stored, deflate.Fixed, deflate.Told}

// cut keeps messages short.
func cut(b []byte) []byte { return b[:min(len(b), 60)] }

// deflated asks for the packed bytes, and whether what was handed in, and the room behind it, stayed as it was.
func deflated(t *testing.T, b []byte, block, kind int) []byte {
	t.Helper()
	room := append(slices.Clone(b), b[:min(len(b), 300)]...) // the room behind would go on with pieces
	room = append(room, 0xa5, 0x5a)
	kept := slices.Clone(room)
	out, e := deflate.Deflate(room[:len(b)], block, kind)
	if !bytes.Equal(room, kept) {
		t.Errorf("Deflate(%q (%d), %d, %d) changed what was handed in", cut(b), len(b), block, kind)
	}
	if e != api.OK {
		t.Errorf("Deflate(%q (%d), %d, %d): %v", cut(b), len(b), block, kind, e)
	}
	return out
}

// checkReads asks whether packed bytes are read as the text, and all of them are taken, by inflate and by others.
func checkReads(t *testing.T, out, b []byte) {
	t.Helper()
	if len(b) <= api.MaxBytes {
		for _, behind := range []string{"", "\x00", "\xff\x03\x00"} {
			text, used, e := inflate.Inflate(append(slices.Clone(out), behind...), len(b))
			if !bytes.Equal(text, b) || used != len(out) || e != api.OK {
				t.Fatalf("Inflate of % x (%d) = %q (%d), %d, %v, want %q (%d)", cut(out), len(out), cut(text), len(text), used, e, cut(b), len(b))
			}
		}
	}
	text, err := io.ReadAll(flate.NewReader(bytes.NewReader(out)))
	if !bytes.Equal(text, b) || err != nil {
		t.Fatalf("% x (%d) are told otherwise by others: %q (%d), %v", cut(out), len(out), cut(text), len(text), err)
	}
}

// check asks for a packed text as the model tells it, and whether it is read again.
func check(t *testing.T, b []byte, block, kind int) answer {
	t.Helper()
	out, want := deflated(t, b, block, kind), byWords(b, block, kind)
	if !bytes.Equal(out, packed(want.digits)) {
		t.Fatalf("Deflate(%q (%d), %d, %d) = % x (%d), want % x (%d)", cut(b), len(b), block, kind, cut(out), len(out), cut(packed(want.digits)), len(want.digits))
	}
	checkReads(t, out, b)
	return want
}

// checkDigits asks for packed digits that are given.
func checkDigits(t *testing.T, b []byte, block, kind int, want string) {
	t.Helper()
	if out := deflated(t, b, block, kind); !bytes.Equal(out, packed(want)) {
		t.Errorf("Deflate(%q (%d), %d, %d) = % x (%d), want % x (%d)", cut(b), len(b), block, kind, cut(out), len(out), cut(packed(want)), len(want))
	}
	check(t, b, block, kind)
}

// checkKinds asks for a packed text of each kind, and whether Best is not longer than the others by more than it may be.
func checkKinds(t *testing.T, b []byte, block int) answer {
	t.Helper()
	taken := check(t, b, block, deflate.Best)
	length := 8 * len(deflated(t, b, block, deflate.Best))
	for _, kind := range allKinds[1:] {
		other := check(t, b, block, kind)
		room := 7 * len(other.kinds)
		if len(taken.digits) > len(other.digits)+room || length > 8*len(deflated(t, b, block, kind))+room+7 {
			t.Errorf("%q (%d), %d: Best has %d bits, kind %d %d", cut(b), len(b), block, len(taken.digits), kind, len(other.digits))
		}
	}
	return taken
}

func randomText(r *rand.Rand, size, letters int) []byte {
	b := make([]byte, size)
	for i := range b {
		b[i] = byte(r.Intn(letters))
	}
	return b
}

// repeating tells a text of pieces that stood ahead and of new bytes, in runs of any length.
func repeating(r *rand.Rand, size, letters int) []byte {
	b := randomText(r, 1, letters)
	for len(b) < size {
		if r.Intn(3) == 0 {
			b = append(b, randomText(r, 1+r.Intn(4), letters)...)
			continue
		}
		d := 1 + r.Intn(len(b))
		for range 1 + r.Intn(1<<r.Intn(9)) {
			b = append(b, b[len(b)-d])
		}
	}
	return b[:size]
}

// unlikeText tells a text of bytes that come more and more seldom from 0 on.
func unlikeText(r *rand.Rand, size, letters int, steep float64) []byte {
	b := make([]byte, size)
	for i := range b {
		b[i] = byte(min(letters-1, int(r.ExpFloat64()*float64(letters)/steep)))
	}
	return b
}

// from tells so many bytes, one behind the other, from a first one on.
func from(first, count int) []byte {
	b := make([]byte, count)
	for i := range b {
		b[i] = byte(first + i)
	}
	return b
}

func TestExamples(t *testing.T) {
	for _, x := range []struct {
		b    string
		kind int
		want string
	}{
		{"", deflate.Best, "\x03\x00"}, {"a", deflate.Best, "\x4b\x04\x00"}, {"a", deflate.Stored, "\x01\x01\x00\xfe\xffa"},
	} {
		if out := deflated(t, []byte(x.b), 9, x.kind); string(out) != x.want {
			t.Errorf("Deflate(%q, 9, %d) = % x", x.b, x.kind, out)
		}
		check(t, []byte(x.b), 9, x.kind)
	}
	if out, e := deflate.Deflate([]byte("a"), 0, deflate.Best); len(out) != 0 || e != api.ErrArg {
		t.Errorf("% x, %v", out, e)
	}
	for _, x := range [][3]int{{10, 264, 0}, {12, 265, 1}, {258, 285, 0}} {
		if s, m, e := deflate.Symbol(x[0]); s != x[1] || m != x[2] || e != api.OK {
			t.Errorf("Symbol(%d) = %d, %d, %v", x[0], s, m, e)
		}
	}
	for _, x := range [][3]int{{7, 5, 0}, {8, 5, 1}} {
		if s, m, e := deflate.Far(x[0]); s != x[1] || m != x[2] || e != api.OK {
			t.Errorf("Far(%d) = %d, %d, %v", x[0], s, m, e)
		}
	}
	checkRuns(t, []int{0, 0, 0, 2, 2, 2, 2}, run{17, 0}, run{2, 0}, run{16, 0})
}

// checkLook asks for the symbol of every value around those that may be.
func checkLook(t *testing.T, name string, look func(int) (int, int, api.Errno), least, most, first int, listed [][2]int) {
	t.Helper()
	wrong := []int{math.MinInt, math.MinInt + 1, math.MinInt32, math.MaxInt32, math.MaxInt - 1, math.MaxInt, 1 << 32, 1<<32 + least, 1<<32 + most, 1<<16 + least}
	for v := least - 600; v <= most+600; v++ {
		if v < least || v > most {
			wrong = append(wrong, v)
			continue
		}
		i := listedFor(listed, v)
		if s, m, e := look(v); s != first+i || m != v-listed[i][0] || e != api.OK {
			t.Errorf("%s(%d) = %d, %d, %v, want %d, %d", name, v, s, m, e, first+i, v-listed[i][0])
		}
	}
	for _, v := range wrong {
		if s, m, e := look(v); s != 0 || m != 0 || e != api.ErrArg {
			t.Errorf("%s(%d) = %d, %d, %v, want ErrArg", name, v, s, m, e)
		}
	}
}

func TestP8_1Symbol(t *testing.T) {
	checkLook(t, "Symbol", deflate.Symbol, 3, 258, 257, listedLengths)
	for _, x := range [][3]int{{3, 257, 0}, {10, 264, 0}, {11, 265, 0}, {18, 268, 1}, {19, 269, 0}, {227, 284, 0}, {257, 284, 30}, {258, 285, 0}} {
		if s, m, e := deflate.Symbol(x[0]); s != x[1] || m != x[2] || e != api.OK {
			t.Errorf("Symbol(%d) = %d, %d, %v", x[0], s, m, e)
		}
	}
	for length := 3; length <= 258; length++ { // its bits bear it
		s, m, _ := deflate.Symbol(length)
		least, extra, e := inflate.LengthOf(s)
		if least+m != length || m < 0 || m >= 1<<extra || e != api.OK {
			t.Errorf("Symbol(%d) = %d, %d, of %d and %d bits", length, s, m, least, extra)
		}
	}
}

func TestP8_1Far(t *testing.T) {
	checkLook(t, "Far", deflate.Far, 1, 32768, 0, listedDistances)
	for _, x := range [][3]int{{1, 0, 0}, {4, 3, 0}, {5, 4, 0}, {6, 4, 1}, {24576, 28, 8191}, {24577, 29, 0}, {32768, 29, 8191}} {
		if s, m, e := deflate.Far(x[0]); s != x[1] || m != x[2] || e != api.OK {
			t.Errorf("Far(%d) = %d, %d, %v", x[0], s, m, e)
		}
	}
	for distance := 1; distance <= 32768; distance++ {
		s, m, _ := deflate.Far(distance)
		least, extra, e := inflate.DistanceOf(s)
		if least+m != distance || m < 0 || m >= 1<<extra || e != api.OK {
			t.Errorf("Far(%d) = %d, %d, of %d and %d bits", distance, s, m, least, extra)
		}
	}
}

// checkRuns asks how lengths are told, and whether what was handed in, and the room behind it, stayed as it was.
func checkRuns(t *testing.T, lengths []int, want ...run) {
	t.Helper()
	room := slices.Clone(lengths)
	if len(lengths) > 0 {
		room = append(room, many(lengths[len(lengths)-1], 200)...) // it would go on with the last run
	}
	kept := slices.Clone(room)
	symbols, more := deflate.Runs(room[:len(lengths)])
	if !slices.Equal(room, kept) {
		t.Errorf("Runs(%v) changed what was handed in", lengths)
	}
	same := len(symbols) == len(want) && len(more) == len(want)
	for i := 0; same && i < len(want); i++ {
		same = symbols[i] == want[i].symbol && more[i] == want[i].more
	}
	if !same {
		t.Errorf("Runs(%v) = %v with %v, want %v", lengths, symbols, more, want)
	}
}

func TestP8_2Runs(t *testing.T) {
	none := []int(nil)
	for _, x := range []struct {
		lengths []int
		want    []run
	}{
		{none, nil}, {[]int{}, nil},
		{many(0, 1), []run{{0, 0}}},
		{many(0, 2), []run{{0, 0}, {0, 0}}},
		{many(0, 3), []run{{17, 0}}},
		{many(0, 10), []run{{17, 7}}},
		{many(0, 11), []run{{18, 0}}},
		{many(0, 138), []run{{18, 127}}},
		{many(0, 139), []run{{18, 127}, {0, 0}}},
		{many(0, 140), []run{{18, 127}, {0, 0}, {0, 0}}},
		{many(0, 141), []run{{18, 127}, {17, 0}}},
		{many(0, 149), []run{{18, 127}, {18, 0}}},
		{many(0, 276), []run{{18, 127}, {18, 127}}},
		{many(7, 1), []run{{7, 0}}},
		{many(7, 2), []run{{7, 0}, {7, 0}}},
		{many(7, 3), []run{{7, 0}, {7, 0}, {7, 0}}},
		{many(7, 4), []run{{7, 0}, {16, 0}}},
		{many(7, 6), []run{{7, 0}, {16, 2}}},
		{many(7, 7), []run{{7, 0}, {16, 3}}},
		{many(7, 8), []run{{7, 0}, {16, 3}, {7, 0}}},
		{many(7, 9), []run{{7, 0}, {16, 3}, {7, 0}, {7, 0}}},
		{many(7, 10), []run{{7, 0}, {16, 3}, {16, 0}}},
		{many(7, 13), []run{{7, 0}, {16, 3}, {16, 3}}},
		{many(-1, 4), []run{{-1, 0}, {-1, 0}, {-1, 0}, {-1, 0}}},
		{joined(many(-1, 2), many(0, 3), many(-1, 1)), []run{{-1, 0}, {-1, 0}, {17, 0}, {-1, 0}}},
		{many(16, 4), []run{{16, 0}, {16, 0}}},
		{many(math.MaxInt, 7), []run{{math.MaxInt, 0}, {16, 3}}},
		{many(math.MinInt, 3), []run{{math.MinInt, 0}, {math.MinInt, 0}, {math.MinInt, 0}}},
	} {
		checkRuns(t, x.lengths, x.want...)
		for _, other := range []int{3, -4, math.MaxInt - 1} { // the same behind another length, and ahead of one
			checkRuns(t, joined([]int{other}, x.lengths), append([]run{{other, 0}}, x.want...)...)
			checkRuns(t, joined(x.lengths, []int{other}), append(slices.Clone(x.want), run{other, 0})...)
		}
		if len(x.lengths) > 0 && x.lengths[0] != 0 {
			checkRuns(t, joined(many(0, 12), x.lengths, many(0, 2)), append(append([]run{{18, 1}}, x.want...), run{0, 0}, run{0, 0})...)
		}
	}
}

func TestP8_2RunsOfEachSize(t *testing.T) {
	for _, v := range []int{0, 1, 2, 15, 17, 18, -1, math.MaxInt, math.MinInt} {
		for n := range 300 {
			for _, ahead := range [][]int{nil, {5}, {0}, {5, 5}, {0, 0, 0}, {-1}} {
				for _, behind := range [][]int{nil, {6}, {0, 0, 0}, {6, 6, 6, 6}} {
					l := joined(ahead, many(v, n), behind)
					checkRuns(t, l, runsByWords(l)...)
				}
			}
		}
	}
}

func TestP8_2RunsOfEveryShortList(t *testing.T) {
	var longer func(l, of []int, most int)
	longer = func(l, of []int, most int) {
		checkRuns(t, l, runsByWords(l)...)
		if len(l) == most {
			return
		}
		for _, v := range of {
			longer(joined(l, []int{v}), of, most)
		}
	}
	longer(nil, []int{0, 2}, 13)
	longer(nil, []int{0, 2, -1}, 8)
	longer(nil, []int{0, 1, 2, -1, -2}, 5)
}

// P8.2: lengths are told so that a reader has them again.
func TestP8_2RunsAreRead(t *testing.T) {
	r := rand.New(rand.NewSource(82))
	for range 3000 {
		var l []int
		for range r.Intn(12) {
			l = append(l, many(r.Intn(16), 1+r.Intn(1<<r.Intn(9)))...)
		}
		checkRuns(t, l, runsByWords(l)...)
		symbols, more := deflate.Runs(l)
		var read []int
		for i, s := range symbols {
			switch s {
			case 16:
				read = append(read, many(read[len(read)-1], 3+more[i])...)
			case 17:
				read = append(read, many(0, 3+more[i])...)
			case 18:
				read = append(read, many(0, 11+more[i])...)
			default:
				read = append(read, s)
			}
		}
		if !slices.Equal(read, l) {
			t.Fatalf("Runs(%v) is read as %v", l, read)
		}
	}
}

func TestP8_2LongRunsEndSoon(t *testing.T) {
	for _, v := range []int{0, 1, -1} {
		l := many(v, 3000000)
		symbols, more := deflate.Runs(l)
		want := runsByWords(l[:138*6+1])
		if len(symbols) != len(more) || symbols[0] != want[0].symbol || more[1] != want[1].more {
			t.Errorf("%d: %v with %v", v, symbols[:2], more[:2])
		}
		if n := map[int]int{0: 21740, 1: 500001, -1: 3000000}[v]; len(symbols) != n {
			t.Errorf("%d: %d symbols, want %d", v, len(symbols), n)
		}
	}
}

func TestP8_3WrongArguments(t *testing.T) {
	wrongBlocks := []int{0, -1, -2, math.MinInt, math.MinInt32, 65536, 65537, 1 << 17, math.MaxInt, math.MaxInt32, 1 << 32, 1<<32 + 1}
	wrongKinds := []int{-1, -2, math.MinInt, math.MinInt32, 4, 5, math.MaxInt, math.MaxInt32, 1 << 32, 1<<32 + 1}
	refuses := func(b []byte, block, kind int) {
		if out, e := deflate.Deflate(b, block, kind); len(out) != 0 || e != api.ErrArg {
			t.Errorf("Deflate(%q, %d, %d) = % x, %v", b, block, kind, out, e)
		}
	}
	for _, b := range []string{"", "a", "abcabcabc"} {
		for _, kind := range allKinds {
			for _, block := range wrongBlocks {
				refuses([]byte(b), block, kind)
			}
			for _, block := range []int{1, 2, 65534, 65535} {
				check(t, []byte(b), block, kind)
			}
		}
		for _, kind := range wrongKinds {
			for _, block := range append([]int{1, 9, 65535}, wrongBlocks...) {
				refuses([]byte(b), block, kind)
			}
		}
	}
	refuses(nil, 0, deflate.Best)
	check(t, nil, 9, deflate.Best)
}

func TestP8_3StoredBlocks(t *testing.T) {
	for _, x := range []struct {
		b     string
		block int
		want  string
	}{
		{"", 1, "\x01\x00\x00\xff\xff"},
		{"", 65535, "\x01\x00\x00\xff\xff"},
		{"a", 1, "\x01\x01\x00\xfe\xffa"},
		{"ab", 1, "\x00\x01\x00\xfe\xffa\x01\x01\x00\xfe\xffb"},
		{"ab", 2, "\x01\x02\x00\xfd\xffab"},
		{"abc", 2, "\x00\x02\x00\xfd\xffab\x01\x01\x00\xfe\xffc"},
		{"abcd", 2, "\x00\x02\x00\xfd\xffab\x01\x02\x00\xfd\xffcd"},
		{"abcd", 3, "\x00\x03\x00\xfc\xffabc\x01\x01\x00\xfe\xffd"},
		{"\x00\xff\x80", 9, "\x01\x03\x00\xfc\xff\x00\xff\x80"},
	} {
		if out := deflated(t, []byte(x.b), x.block, deflate.Stored); string(out) != x.want {
			t.Errorf("Deflate(%q, %d, Stored) = % x, want % x", x.b, x.block, out, x.want)
		}
		check(t, []byte(x.b), x.block, deflate.Stored)
	}
	r := rand.New(rand.NewSource(81))
	long := randomText(r, 200000, 256)
	for _, size := range []int{255, 256, 258, 65534, 65535, 65536, 131070, 131071, 200000} {
		want := ""
		for b := long[:size]; ; b = b[65535:] {
			n := min(len(b), 65535)
			last := "\x00"
			if n == len(b) {
				last = "\x01"
			}
			want += last + string([]byte{byte(n), byte(n >> 8), ^byte(n), ^byte(n >> 8)}) + string(b[:n])
			if n == len(b) {
				break
			}
		}
		out := deflated(t, long[:size], 65535, deflate.Stored)
		if string(out) != want {
			t.Errorf("%d bytes in blocks of 65535: %d, want %d", size, len(out), len(want))
		}
		checkReads(t, out, long[:size])
	}
}

func TestP8_3FixedBlocks(t *testing.T) {
	for _, x := range []struct {
		b     string
		block int
		want  string // written out, for the fixed code has just these words
	}{
		{"", 9, "110" + "0000000"},
		{"a", 9, "110" + "10010001" + "0000000"},
		{"\x00\x8f\x90\xff", 9, "110" + "00110000" + "10111111" + "110010000" + "111111111" + "0000000"},
		{"aaaa", 9, "110" + "10010001" + "0000001" + "00000" + "0000000"},
		{"aaaa", 2, "010" + "10010001" + "10010001" + "0000000" + "110" + "10010001" + "10010001" + "0000000"},
		{"abcabc", 3, "010" + "10010001" + "10010010" + "10010011" + "0000000" + "110" + "0000001" + "00010" + "0000000"},
	} {
		checkDigits(t, []byte(x.b), x.block, deflate.Fixed, x.want)
	}
	all := from(0, 256)
	checkDigits(t, all, 256, deflate.Fixed, fixedDigits(true, singles(string(all))...))
	checkDigits(t, all, 255, deflate.Fixed, fixedDigits(false, singles(string(all[:255]))...)+fixedDigits(true, single(255)))
}

// P8.3: lengths and distances of each symbol, with their bits, behind bytes that stand once each.
func TestP8_3PiecesOfEachLengthAndDistance(t *testing.T) {
	for length := 1; length <= 520; length++ {
		b := append(bytes.Repeat([]byte("q"), length+1), "xyz"...)
		tokens := []api.Token{single('q')}
		left := length
		for ; left >= 3; left -= min(left, 258) {
			tokens = append(tokens, piece(min(left, 258), 1))
		}
		tokens = append(append(tokens, singles(strings.Repeat("q", left))...), singles("xyz")...)
		checkDigits(t, b, 1000, deflate.Fixed, fixedDigits(true, tokens...))
		checkDigits(t, b, 1000, deflate.Told, toldDigits(true, tokens...))
	}
	for _, listed := range listedDistances {
		for _, distance := range []int{listed[0], listed[0] + 1, listed[0] + 1<<listed[1] - 1, listed[0] + 1<<listed[1]} {
			if distance < 4 || distance > 32768 {
				continue
			}
			b := slices.Concat([]byte("xyz"), make([]byte, distance-3), []byte("xyz"))
			tokens := append(singles("xyz"), single(0))
			left := distance - 4
			for ; left >= 3; left -= min(left, 258) {
				tokens = append(tokens, piece(min(left, 258), 1))
			}
			tokens = append(append(tokens, singles(strings.Repeat("\x00", left))...), piece(3, distance))
			checkDigits(t, b, 65535, deflate.Fixed, fixedDigits(true, tokens...))
			checkDigits(t, b, 65535, deflate.Told, toldDigits(true, tokens...))
		}
	}
}

// P8.3: a piece may go back as far as the window reaches, also into blocks ahead, and no farther.
func TestP8_3Window(t *testing.T) {
	middle := func(size int) (tokens []api.Token) {
		tokens = append(singles("xyz"), single(0))
		for left := size - 1; left > 0; left -= min(left, 258) {
			tokens = append(tokens, piece(min(left, 258), 1))
		}
		return tokens
	}
	near := slices.Concat([]byte("xyz"), make([]byte, 32765), []byte("xyz"))
	beyond := slices.Concat([]byte("xyz"), make([]byte, 32766), []byte("xyz"))
	checkDigits(t, near, 65535, deflate.Fixed, fixedDigits(true, append(middle(32765), piece(3, 32768))...))
	checkDigits(t, near, 32768, deflate.Fixed, fixedDigits(false, middle(32765)...)+fixedDigits(true, piece(3, 32768)))
	checkDigits(t, near, 32768, deflate.Told, toldDigits(false, middle(32765)...)+toldDigits(true, piece(3, 32768)))
	checkDigits(t, beyond, 65535, deflate.Fixed, fixedDigits(true, append(middle(32766), singles("xyz")...)...))
	checkDigits(t, beyond, 32769, deflate.Fixed, fixedDigits(false, middle(32766)...)+fixedDigits(true, singles("xyz")...))
	r := rand.New(rand.NewSource(32768))
	noise := randomText(r, 32768, 256)
	for _, more := range []int{0, 1, 2, 300} {
		b := slices.Concat(noise, noise[:more], noise)
		for _, block := range []int{16384, 32767, 32768, 32769, 65535} {
			check(t, b, block, deflate.Best)
		}
	}
}

// P8.3: pieces end with their block, may stand in blocks ahead of it, and may reach into themselves.
func TestP8_3PiecesAndBlocks(t *testing.T) {
	for _, x := range []struct {
		b      string
		block  int
		blocks [][]api.Token
	}{
		{"aaaaaaaa", 4, [][]api.Token{{single('a'), piece(3, 1)}, {piece(4, 1)}}},
		{"aaaaaaaaa", 4, [][]api.Token{{single('a'), piece(3, 1)}, {piece(4, 1)}, {single('a')}}},
		{"aaaaaaaaa", 3, [][]api.Token{singles("aaa"), {piece(3, 1)}, {piece(3, 1)}}},
		{"aaaaaaaaa", 2, [][]api.Token{singles("aa"), singles("aa"), singles("aa"), singles("aa"), singles("a")}},
		{"aaa", 1, [][]api.Token{singles("a"), singles("a"), singles("a")}},
		{"abcabcabcd", 10, [][]api.Token{append(singles("abc"), piece(6, 3), single('d'))}},
		{"abcabcabcd", 9, [][]api.Token{append(singles("abc"), piece(6, 3)), {single('d')}}},
		{"abcabcabcd", 5, [][]api.Token{singles("abcab"), {piece(4, 3), single('d')}}},
		{"abcabcabcd", 6, [][]api.Token{append(singles("abc"), piece(3, 3)), {piece(3, 3), single('d')}}},
		{"abcdabcd", 4, [][]api.Token{singles("abcd"), {piece(4, 4)}}},
		{"abcdabcd", 8, [][]api.Token{append(singles("abcd"), piece(4, 4))}},
		{"abcdabcd", 7, [][]api.Token{append(singles("abcd"), piece(3, 4)), {single('d')}}},
		{"ababab", 3, [][]api.Token{singles("aba"), {piece(3, 2)}}},
	} {
		fixed, told := "", ""
		for i, tokens := range x.blocks {
			fixed += fixedDigits(i == len(x.blocks)-1, tokens...)
			told += toldDigits(i == len(x.blocks)-1, tokens...)
		}
		checkDigits(t, []byte(x.b), x.block, deflate.Fixed, fixed)
		checkDigits(t, []byte(x.b), x.block, deflate.Told, told)
	}
}

// P8.3: told blocks, digit by digit.
func TestP8_3ToldBlocks(t *testing.T) {
	for _, x := range []struct {
		b    string
		want []string
	}{
		// The length 1 of 256 alone. Inner words: 18 0, 0 10, 1 11; their lengths up to 1's place, the last but one.
		{"", []string{
			"101", "00000", "00000", "0111", "000", "000", "100", "010", strings.Repeat("000", 13), "010",
			"0", "1111111", "0", "1101011", "11", "10", "0",
		}},
		// The length 1 of a and 256: 97 noughts, 1, 158 noughts, 1; no distance: 0.
		{"a", []string{
			"101", "00000", "00000", "0111", "000", "000", "100", "010", strings.Repeat("000", 13), "010",
			"0", "0110101", "11", "0", "1111111", "0", "1001000", "11", "10", "0", "1",
		}},
		// a, 256 and 260 (of the length 6) once each: lengths 2, 2 and 1; one distance, 0, of the length 1 alone.
		// 97 noughts, 2, 138 and 20 noughts, 2, three noughts, 1, 1. Inner words: 1 00, 2 01, 17 10, 18 11.
		{"aaaaaaa", []string{
			"101", "00100", "00000", "0111", "000", "010", "010", strings.Repeat("000", 12), "010", "000", "010",
			"11", "0110101", "01", "11", "1111111", "11", "1001000", "01", "10", "000", "00", "00", "10", "0", "0", "11",
		}},
	} {
		out := deflated(t, []byte(x.b), 9, deflate.Told)
		if !bytes.Equal(out, packed(strings.Join(x.want, ""))) {
			t.Errorf("Deflate(%q, 9, Told) = % x, want % x", x.b, out, packed(strings.Join(x.want, "")))
		}
		check(t, []byte(x.b), 9, deflate.Told)
	}
}

// P8.3: of the lengths that are told, trailing noughts are left out as far as they may be.
func TestP8_3TrailingNoughts(t *testing.T) {
	for _, x := range []struct {
		b             string
		near, far, in int // how many lengths are told of symbols, of distances, of the inner code
	}{
		{"", 257, 1, 18},
		{"\xff", 257, 1, 18},
		{"aaaa", 258, 1, 18},
		{"ababab", 259, 2, 18},
		{"abcabcx", 258, 3, 18},
		{"abcdabcd", 259, 4, 18},
		{"abcdeabcde", 260, 5, 18},
		{strings.Repeat("a", 259), 286, 1, 18},
		{strings.Repeat("a", 258), 285, 1, 18},
		{strings.Repeat("ab", 10), 269, 2, 18},
		{string(from(0, 256)), 257, 1, 7}, // lengths 8 and 9
		{string(from(0, 255)), 257, 1, 5}, // 8 alone
		{string(from(0, 250)), 257, 1, 6}, // 8 and 7
		{string(from(0, 100)), 257, 1, 8}, // 7 and 6
	} {
		out := deflated(t, []byte(x.b), 65535, deflate.Told)
		near, far, in := 257+int(out[0]>>3), 1+int(out[1]&31), 4+int(out[1]>>5|out[2]&1<<3)
		if near != x.near || far != x.far || in != x.in {
			t.Errorf("%q: %d, %d, %d lengths, want %d, %d, %d", cut([]byte(x.b)), near, far, in, x.near, x.far, x.in)
		}
		check(t, []byte(x.b), 65535, deflate.Told)
	}
}

// everySymbol tells a text in whose only block all 286 symbols come, and all 30 distances: pieces that stood ahead, each behind new bytes.
func everySymbol(r *rand.Rand) []byte {
	b := randomText(r, 33000, 256)
	again := func(length, distance int) {
		b = append(b, randomText(r, 300, 256)...)
		for range length {
			b = append(b, b[len(b)-distance])
		}
		b = append(b, ^b[len(b)-distance]) // so that the piece ends here
	}
	for _, listed := range listedLengths {
		again(listed[0], 20000)
	}
	for _, listed := range listedDistances {
		again(4, listed[0])
	}
	return b
}

// P8.3: codes of few symbols, of all of them, and of words that would be longer than they may be.
func TestP8_3Codes(t *testing.T) {
	r := rand.New(rand.NewSource(286))
	all := everySymbol(r)
	a := check(t, all, 65535, deflate.Told)
	if len(a.kinds) != 1 {
		t.Fatal(len(a.kinds))
	}
	h := headOf(parsed(t, all))
	if slices.Contains(h.near, 0) || slices.Contains(h.far, 0) || len(h.near) != 286 || len(h.far) != 30 {
		t.Errorf("not all symbols come: %v, %v", h.near, h.far)
	}
	for letters := 1; letters <= 256; letters += 1 + letters/9 {
		checkKinds(t, randomText(r, 600, letters), 65535)
		checkKinds(t, from(256-letters, letters), 65535)
	}
	noise := randomText(r, 60000, 200)
	place := 0
	for i := range 10 { // each as often as those ahead of it and 256
		for range 1 << i {
			noise[place] = byte(200 + i)
			place += 58
		}
	}
	near, _ := countSymbols(parsed(t, noise))
	if slices.Equal(best(near, 15), best(near, 16)) {
		t.Error("no word would be longer than 15")
	}
	check(t, noise, 65535, deflate.Told)
	check(t, noise, 65535, deflate.Best)
}

// parsed is the tokens of a text's only block.
func parsed(t *testing.T, b []byte) []api.Token {
	t.Helper()
	tokens, e := token.Parse(b, 0, 32768, 3, 258)
	if e != api.OK {
		t.Fatal(e)
	}
	return tokens
}

// P8.3: the inner code's words, too, are at most so long.
func TestP8_3InnerCodes(t *testing.T) {
	r := rand.New(rand.NewSource(19))
	longer, counts := 0, map[int]int{}
	for range 600 {
		b := unlikeText(r, 200+r.Intn(4000), 100+r.Intn(157), 1+8*r.Float64())
		h := headOf(parsed(t, b))
		often := many(0, 19)
		for _, x := range h.runs {
			often[x.symbol]++
		}
		if !slices.Equal(best(often, 7), best(often, 8)) {
			longer++
		}
		counts[h.count]++
		check(t, b, 65535, deflate.Told)
	}
	if longer < 5 || len(counts) < 5 {
		t.Errorf("%d inner codes of longer words, counts %v", longer, counts)
	}
}

// P8.3: a text of no whole block, of just one, of one byte more, of just two.
func TestP8_3BlocksAreCut(t *testing.T) {
	r := rand.New(rand.NewSource(83))
	for _, block := range []int{1, 2, 3, 4, 7, 64, 255, 256, 513} {
		for _, size := range []int{0, 1, block - 1, block, block + 1, 2*block - 1, 2 * block, 2*block + 1, 5*block + 1} {
			b := repeating(r, size+1, 4)[:size]
			a := checkKinds(t, b, block)
			if want := max(1, (size+block-1)/block); len(a.kinds) != want {
				t.Errorf("the model has %d blocks of %d bytes, want %d", len(a.kinds), size, want)
			}
		}
	}
	noise := randomText(r, 65535, 256)
	text := slices.Concat(noise[:30000], repeating(r, 70000, 20), noise[:40000])
	for _, size := range []int{65534, 65535, 65536, 131070, 131071} {
		checkKinds(t, text[:size], 65535)
	}
	checkKinds(t, text[:65535], 65534)
	checkKinds(t, text[:3000], 1)
	checkKinds(t, text[29000:33000], 1)
}

// P8.3: where Stored and Fixed have as many bits, Stored is taken; it hangs on the place where the block begins.
func TestP8_3BestOfStoredAndFixed(t *testing.T) {
	const block = 60
	r := rand.New(rand.NewSource(144))
	mixed := func(high int) []byte { // that many bytes of nine bits, the others of eight, none of them twice: so Told is longer
		b := make([]byte, block)
		above, below := r.Perm(112), r.Perm(144)
		for i := range b {
			b[i] = byte(below[i])
			if i < high {
				b[i] = byte(144 + above[i])
			}
		}
		return b
	}
	places := map[int]bool{}
	for ahead := range 8 {
		at := 10 + 8*block + ahead
		places[at%8] = true
		filled := 3
		for (at+filled)%8 != 0 {
			filled++
		}
		for high := 20; high <= 40; high++ {
			want := deflate.Fixed
			if filled+32 <= 10+high {
				want = deflate.Stored
			}
			b := slices.Concat(mixed(ahead), mixed(high))
			a := checkKinds(t, b, block)
			if !slices.Equal(a.kinds, []int{deflate.Fixed, want}) {
				t.Errorf("behind %d bits, with %d bytes of nine: the model takes %v", at, high, a.kinds)
			}
			out := deflated(t, b, block, deflate.Best)
			if kind := (int(out[at/8]) + int(out[at/8+1])<<8) >> (at%8 + 1) & 3; kind != want-deflate.Stored {
				t.Errorf("behind %d bits, with %d bytes of nine: a block of the kind %d", at, high, kind)
			}
		}
	}
	if len(places) != 8 {
		t.Error(places)
	}
	for high, want := range map[int]int{29: deflate.Fixed, 30: deflate.Stored, 31: deflate.Stored} {
		b := mixed(high)
		if out := deflated(t, b, block, deflate.Best); !bytes.Equal(out, deflated(t, b, block, want)) {
			t.Errorf("%d bytes of nine bits: % x", high, out)
		}
	}
}

// P8.3: blocks of which two kinds, or all, have the same number of bits.
func TestP8_3BestOfSame(t *testing.T) {
	for _, b := range []string{
		"\xde\xdc\xd3\xcd\xcb\xd1\xd2\xca\xe2\xd1\xdc\xd5\xd6\xdc\xdb\xd7\xc7\xe0\xcf\xde\xc7\xdc\xce\xd9\xdf\xcd\xe2\xe0\xdf\xd6",
		"\xa1\xa8\x9d\x8f\x99\xae\x8e\x95\xae\x95\x98\x8f\xa5\x98\xaa\xaf\x91\x99\xa3\x96\xa7\xad\xaa\xaa\xad\xa6\xaa\x99\x9a\xaa\xa6\xa0\x95",
	} {
		a := checkKinds(t, []byte(b), 65535)
		if s := a.sizes[0]; s[1] != s[2] || s[2] != s[3] {
			t.Errorf("%q: %v", b, s)
		}
		if out := deflated(t, []byte(b), 65535, deflate.Best); !bytes.Equal(out, deflated(t, []byte(b), 65535, deflate.Stored)) {
			t.Errorf("%q: % x is not stored", b, out)
		}
	}
	r := rand.New(rand.NewSource(8))
	same, alone := map[[2]int]int{}, map[int]int{}
	for range 12000 {
		letters := 1 + r.Intn(1<<(1+r.Intn(8)))
		b := unlikeText(r, r.Intn(400), min(letters, 256), 1+4*r.Float64())
		first := r.Intn(257 - min(letters, 256))
		for i := range b {
			b[i] += byte(first)
		}
		out, a := deflated(t, b, 65535, deflate.Best), byWords(b, 65535, deflate.Best)
		if !bytes.Equal(out, packed(a.digits)) {
			t.Fatalf("Deflate(%q, 65535, Best) = % x, want % x", b, out, packed(a.digits))
		}
		least := min(a.sizes[0][1], a.sizes[0][2], a.sizes[0][3])
		var kinds []int
		for k := 1; k <= 3; k++ {
			if a.sizes[0][k] == least {
				kinds = append(kinds, k)
			}
		}
		if len(kinds) == 2 {
			same[[2]int(kinds)]++
		} else if len(kinds) == 1 {
			alone[kinds[0]]++
		}
	}
	for _, x := range [][2]int{{deflate.Stored, deflate.Fixed}, {deflate.Stored, deflate.Told}, {deflate.Fixed, deflate.Told}} {
		if same[x] < 3 {
			t.Errorf("%v have the same number of bits %d times", x, same[x])
		}
	}
	for _, k := range allKinds[1:] {
		if alone[k] < 100 {
			t.Errorf("%d alone has the fewest bits %d times", k, alone[k])
		}
	}
}

// P8.3, P8.4: many texts in blocks of many sizes, of each kind.
func TestP8_4ManyTexts(t *testing.T) {
	r := rand.New(rand.NewSource(84))
	taken := map[int]int{}
	for range 350 {
		size := r.Intn(1 << r.Intn(12))
		var b []byte
		for len(b) < size {
			part := 1 + r.Intn(600)
			switch r.Intn(5) {
			case 0:
				b = append(b, randomText(r, part, 256)...)
			case 1:
				b = append(b, repeating(r, part, 1+r.Intn(256))...)
			case 2:
				b = append(b, unlikeText(r, part, 256, 1+9*r.Float64())...)
			case 3:
				b = append(b, randomText(r, part, 1+r.Intn(5))...)
			case 4:
				b = append(b, b[r.Intn(len(b)+1):]...)
			}
		}
		b = b[:size]
		for _, block := range []int{1 + r.Intn(size/20+9), 1 + r.Intn(size+1), 65535} {
			for _, k := range checkKinds(t, b, block).kinds {
				taken[k]++
			}
		}
	}
	for _, k := range allKinds[1:] {
		if taken[k] < 50 {
			t.Errorf("%d was the best %d times", k, taken[k])
		}
	}
}

func TestP8_4EveryShortText(t *testing.T) {
	for x := range 256 {
		checkKinds(t, []byte{byte(x)}, 1+x)
	}
	var longer func(b []byte)
	longer = func(b []byte) {
		for _, kind := range allKinds {
			for block := 1; block <= len(b)+1; block += 1 + len(b)/4 {
				if out := deflated(t, b, block, kind); !bytes.Equal(out, packed(byWords(b, block, kind).digits)) {
					t.Fatalf("Deflate(%q, %d, %d) = % x", b, block, kind, out)
				} else if text, used, e := inflate.Inflate(out, len(b)); !bytes.Equal(text, b) || used != len(out) || e != api.OK {
					t.Fatalf("Inflate(% x) = %q, %d, %v", out, text, used, e)
				}
			}
		}
		if len(b) < 8 {
			longer(append(slices.Clone(b), 'a'))
			longer(append(slices.Clone(b), 0xf0))
		}
	}
	longer(nil)
}

// P8.4: long texts, and texts of many blocks; each call ends soon.
func TestP8_4LongTexts(t *testing.T) {
	r := rand.New(rand.NewSource(4))
	var rising []byte
	for i := 0; len(rising) < 1<<20; i++ {
		rising = append(append(rising, make([]byte, i)...), 1)
	}
	texts := [][]byte{
		make([]byte, 1<<20), rising, randomText(r, 1<<20, 256), randomText(r, 1<<20, 3), repeating(r, 1<<20, 200), bytes.Repeat([]byte("0123456789abcdef"), 1<<16),
	}
	for i, b := range texts {
		sizes := map[int]int{}
		for _, kind := range allKinds {
			out := deflated(t, b, 65535, kind)
			checkReads(t, out, b)
			sizes[kind] = len(out)
		}
		if room := 7*17/8 + 1; sizes[0] > min(sizes[1], sizes[2], sizes[3])+room {
			t.Errorf("text %d: %v", i, sizes)
		}
	}
	for _, b := range texts {
		for _, block := range []int{1, 65, 100, 500, 600} {
			part := b[:32768+20*block] // the last blocks have a whole window ahead
			checkReads(t, deflated(t, part, block, deflate.Best), part)
		}
	}
}

// Rule 4: what is told is memory of its own, and no two lists of one answer share any.
func TestWhatIsToldIsNew(t *testing.T) {
	b := []byte("abcabcabcabc\xf0\xf1\xf2")
	for _, kind := range allKinds {
		first, _ := deflate.Deflate(b, 9, kind)
		kept := slices.Clone(first)
		full := first[:cap(first)]
		for i := range full {
			full[i] = 'z'
		}
		if string(b) != "abcabcabcabc\xf0\xf1\xf2" {
			t.Errorf("what was handed in is now %q", b)
		}
		second, _ := deflate.Deflate(b, 9, kind)
		if !bytes.Equal(second, kept) {
			t.Errorf("Deflate behind a change of what it told = % x, want % x", second, kept)
		}
		c := slices.Clone(b)
		third, _ := deflate.Deflate(c, 9, kind)
		clear(c)
		if !bytes.Equal(third, kept) {
			t.Errorf("what was told is now % x, want % x", third, kept)
		}
	}
	for n := range 20 {
		lengths := joined(many(3, n), many(0, n), []int{1, 2})
		symbols, more := deflate.Runs(lengths)
		kept := slices.Clone(more)
		full := symbols[:cap(symbols)]
		for i := range full {
			full[i] = -7
		}
		if !slices.Equal(more, kept) || !slices.Equal(lengths, joined(many(3, n), many(0, n), []int{1, 2})) {
			t.Errorf("a change of the symbols changes %v, %v", more, lengths)
		}
		for i := range more[:cap(more)] {
			more[:cap(more)][i] = -8
		}
		if slices.Contains(symbols, -8) || slices.Contains(lengths, -8) {
			t.Errorf("a change of more changes %v, %v", symbols, lengths)
		}
		checkRuns(t, lengths, runsByWords(lengths)...)
	}
}
