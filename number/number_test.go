package number_test

import (
	"bytes"
	"math"
	"math/big"
	"strconv"
	"strings"
	"testing"

	"hamper/api"
	"hamper/number"
)

// way is one of the two orders of bytes.
type way struct {
	name string
	put  func(b []byte, v uint64, n int) ([]byte, api.Errno)
	get  func(b []byte, at, n int) (uint64, int, api.Errno)
	// written tells a number's digits to the base 16, two a byte, in the order of the bytes
	written func(hex string) string
}

func ways() []way {
	return []way{
		{"low first", number.PutLow, number.Low, func(hex string) string {
			s := ""
			for ; hex != ""; hex = hex[2:] {
				s = hex[:2] + s
			}
			return s
		}},
		{"high first", number.PutHigh, number.High, func(hex string) string { return hex }},
	}
}

func inEachWay(t *testing.T, f func(t *testing.T, w way)) {
	t.Helper()
	for _, w := range ways() {
		t.Run(w.name, func(t *testing.T) { f(t, w) })
	}
}

// hexOf tells bytes by two digits each.
func hexOf(b []byte) string {
	s := ""
	for _, c := range b {
		s += string("0123456789abcdef"[c/16]) + string("0123456789abcdef"[c%16])
	}
	return s
}

// wide fills a number's digits to the base 16 up to n bytes.
func wide(v uint64, n int) string {
	s := strconv.FormatUint(v, 16)
	return strings.Repeat("0", 2*n-len(s)) + s
}

// most is the greatest number of n bytes.
func most(n int) uint64 { return math.MaxUint64 >> (64 - 8*n) }

// wrongInts are numbers that are no width and no place of anything.
func wrongInts() []int {
	return []int{math.MinInt, math.MinInt + 1, -1 << 61, -1 << 32, -9, -1, 1 << 32, 1 << 60, 1 << 61, 1 << 62, math.MaxInt - 8, math.MaxInt - 1, math.MaxInt}
}

// roomy tells the bytes with spare room behind them, and a call that is true as long as neither has changed.
func roomy(b ...byte) ([]byte, func() bool) {
	all := append(append([]byte{}, b...), "spare room of some bytes"...)
	was := string(all)
	return all[:len(b)], func() bool { return string(all) == was }
}

func TestP2_1BytesAreLaidInTheirOrder(t *testing.T) {
	inEachWay(t, func(t *testing.T, w way) {
		for n := 1; n <= 8; n++ {
			for _, v := range []uint64{0, 1, 0x7f, 0x80, 0xff, 0x0102030405060708, 0xf1e2d3c4b5a69788, math.MaxUint64} {
				v &= most(n)
				b, e := w.put([]byte("ab"), v, n)
				if e != api.OK || hexOf(b) != "6162"+w.written(wide(v, n)) {
					t.Errorf("put %x of %d: %s %d", v, n, hexOf(b), int(e))
				}
			}
		}
	})
}

func TestP2_1BytesAreRead(t *testing.T) {
	inEachWay(t, func(t *testing.T, w way) {
		b := []byte{0xf0, 0x01, 0x92, 0x83, 0x74, 0x65, 0x56, 0x47, 0x38, 0xa9, 0x00}
		for n := 1; n <= 8; n++ {
			for at := 0; at+n <= len(b); at++ {
				v, next, e := w.get(b, at, n)
				if e != api.OK || next != at+n || w.written(wide(v, n)) != hexOf(b[at:at+n]) {
					t.Errorf("get %d at %d: %x %d %d", n, at, v, next, int(e))
				}
			}
		}
	})
}

func TestP2_1PutWidths(t *testing.T) {
	inEachWay(t, func(t *testing.T, w way) {
		for _, n := range append(wrongInts(), 0, 9, 16, 64) {
			for _, v := range []uint64{0, 1, math.MaxUint64} { // ErrArg is named ahead of ErrBig
				if b, e := w.put([]byte("ab"), v, n); len(b) != 0 || e != api.ErrArg {
					t.Errorf("put %x of %d: %x %d", v, n, b, int(e))
				}
			}
		}
	})
}

func TestP2_1PutTooBig(t *testing.T) {
	inEachWay(t, func(t *testing.T, w way) {
		for n := 1; n <= 7; n++ {
			if b, e := w.put(nil, most(n), n); len(b) != n || e != api.OK {
				t.Errorf("the greatest of %d: %x %d", n, b, int(e))
			}
			for _, v := range []uint64{most(n) + 1, most(n) + 2, 1 << 63, math.MaxUint64} {
				if b, e := w.put([]byte("ab"), v, n); len(b) != 0 || e != api.ErrBig {
					t.Errorf("put %x of %d: %x %d", v, n, b, int(e))
				}
			}
		}
	})
}

func TestP2_1GetWrongArguments(t *testing.T) {
	inEachWay(t, func(t *testing.T, w way) {
		b, _ := roomy(1, 2, 3)
		refused := func(at, n int, want api.Errno) {
			t.Helper()
			if v, next, e := w.get(b, at, n); v != 0 || next != 0 || e != want {
				t.Errorf("get %d at %d: %x %d %d, not %d", n, at, v, next, int(e), int(want))
			}
		}
		for _, x := range append(wrongInts(), -2, 9, 64) {
			refused(0, x, api.ErrArg)
			refused(3, x, api.ErrArg)
			refused(x, 1, api.ErrArg)
			refused(x, 8, api.ErrArg)
			refused(x, x, api.ErrArg)
		}
		refused(0, 0, api.ErrArg)
		refused(3, 0, api.ErrArg)
		refused(4, 1, api.ErrArg)
		refused(4, 8, api.ErrArg)
		for n := 1; n <= 8; n++ {
			refused(3, n, api.ErrEnd) // at the length: a place, but without a byte
		}
		refused(0, 4, api.ErrEnd)
		refused(1, 3, api.ErrEnd)
		refused(2, 2, api.ErrEnd)
		for _, none := range [][]byte{nil, {}} {
			b = none
			refused(0, 1, api.ErrEnd)
			refused(1, 1, api.ErrArg)
			refused(0, 0, api.ErrArg)
		}
	})
}

func TestP2_1NothingIsSharedOrChanged(t *testing.T) {
	inEachWay(t, func(t *testing.T, w way) {
		for n := 1; n <= 8; n++ {
			tellsNewMemory(t, func(b []byte) ([]byte, api.Errno) { return w.put(b, 1, n) })
		}
		b, same := roomy(1, 2, 3, 4, 5, 6, 7, 8)
		if _, _, e := w.get(b, 0, 8); e != api.OK || !same() {
			t.Error("get has changed what it was handed")
		}
		if _, e := w.put(b, 256, 1); e != api.ErrBig || !same() {
			t.Error("a put that is refused has changed what it was handed")
		}
	})
}

// tellsNewMemory looks whether a put writes to what it was handed, or shares memory with it or with what it told earlier.
func tellsNewMemory(t *testing.T, put func(b []byte) ([]byte, api.Errno)) {
	t.Helper()
	b, same := roomy('a', 'b')
	one, _ := put(b)
	was := string(one)
	two, _ := put(b)
	if !same() || string(one) != was || string(two) != was {
		t.Fatal("it has written to what it was handed, or to what it told")
	}
	spoil(two)
	if !same() || string(one) != was {
		t.Fatal("what it told shares memory with what it was handed, or with what it told earlier")
	}
	if three, _ := put(b); string(three) != was {
		t.Fatalf("%x", three)
	}
}

// spoil writes over all memory of a list, its spare room too.
func spoil(b []byte) {
	b = b[:cap(b)]
	for i := range b {
		b[i] = 0xee
	}
}

func TestP2_2VarIsLaidBySevens(t *testing.T) {
	for _, c := range []struct {
		v    uint64
		want string
	}{
		{0, "00"}, {1, "01"}, {127, "7f"}, {128, "8001"}, {129, "8101"}, {255, "ff01"}, {300, "ac02"},
		{16383, "ff7f"}, {16384, "808001"}, {1<<21 - 1, "ffff7f"}, {1 << 21, "80808001"}, {1 << 28, "8080808001"},
		{1 << 35, "808080808001"}, {1 << 42, "80808080808001"}, {1<<49 - 1, "ffffffffffff7f"}, {1 << 49, "8080808080808001"},
		{1<<56 - 1, "ffffffffffffff7f"}, {1 << 56, "808080808080808001"}, {1<<63 - 1, "ffffffffffffffff7f"},
	} {
		b, e := number.PutVar([]byte("ab"), c.v)
		if e != api.OK || hexOf(b) != "6162"+c.want {
			t.Errorf("put %d: %s %d", c.v, hexOf(b), int(e))
		}
		b, e = number.PutVar(nil, c.v)
		if e != api.OK || hexOf(b) != c.want {
			t.Errorf("put %d behind nothing: %s %d", c.v, hexOf(b), int(e))
		}
		if v, next, e := number.Var(b, 0); v != c.v || next != len(b) || e != api.OK {
			t.Errorf("read %s: %d %d %d", c.want, v, next, int(e))
		}
		b = append([]byte("ab"), append(b, 0, 0xff)...)
		if v, next, e := number.Var(b, 2); v != c.v || next != len(b)-2 || e != api.OK {
			t.Errorf("read %s amid others: %d %d %d", c.want, v, next, int(e))
		}
	}
}

func TestP2_2PutVarTooBig(t *testing.T) {
	for _, v := range []uint64{1 << 63, 1<<63 + 1, math.MaxUint64} {
		if b, e := number.PutVar([]byte("ab"), v); len(b) != 0 || e != api.ErrBig {
			t.Errorf("put %d: %x %d", v, b, int(e))
		}
	}
}

func TestP2_2VarWrongInputs(t *testing.T) {
	refused := func(b string, at int, want api.Errno) {
		t.Helper()
		given, same := roomy([]byte(b)...)
		if v, next, e := number.Var(given, at); v != 0 || next != 0 || e != want || !same() {
			t.Errorf("%x at %d: %d %d %d, not %d", b, at, v, next, int(e), int(want))
		}
	}
	for _, at := range append(wrongInts(), 3, 4) {
		refused("\x01\x80", at, api.ErrArg)
	}
	refused("", 1, api.ErrArg)
	refused("", -1, api.ErrArg)
	refused("", 0, api.ErrEnd)
	refused("\x01\x01", 2, api.ErrEnd)
	refused("\x01\x80", 1, api.ErrEnd)
	for n := 1; n <= 9; n++ { // nine that ask for a tenth, too: ErrEnd is named ahead of ErrForm
		refused(strings.Repeat("\x80", n), 0, api.ErrEnd)
		refused(strings.Repeat("\xff", n), 0, api.ErrEnd)
		refused("ab"+strings.Repeat("\xff", n), 2, api.ErrEnd)
		refused(strings.Repeat("\x80", n)+"\x00", 0, api.ErrForm)
		refused(strings.Repeat("\xff", n)+"\x00\x01", 0, api.ErrForm)
		refused("ab"+strings.Repeat("\xff", n)+"\x00", 2, api.ErrForm)
	}
	// nine that ask for a tenth, whatever it is
	for _, nine := range []string{strings.Repeat("\x80", 9), strings.Repeat("\xff", 9), strings.Repeat("\xff", 8) + "\x81"} {
		for _, tenth := range []string{"\x00", "\x01", "\x7f", "\x80", "\xff", "\x01\x01", "\x80\x80"} {
			refused(nine+tenth, 0, api.ErrForm)
			refused("ab"+nine+tenth, 2, api.ErrForm)
		}
	}
}

func TestP2_2PutVarSharesNothing(t *testing.T) {
	for _, v := range []uint64{0, 300, 1 << 20, 1<<63 - 1} {
		tellsNewMemory(t, func(b []byte) ([]byte, api.Errno) { return number.PutVar(b, v) })
	}
}

func TestP2_3PutOctal(t *testing.T) {
	for _, c := range []struct {
		v, n int
		want string
	}{
		{0, 2, "0\x00"}, {7, 2, "7\x00"}, {8, 3, "10\x00"}, {8, 4, "010\x00"}, {63, 3, "77\x00"}, {420, 8, "0000644\x00"},
		{0, 12, "00000000000\x00"}, {1<<33 - 1, 12, "77777777777\x00"}, {1 << 30, 12, "10000000000\x00"},
		{math.MaxInt, 22, strings.Repeat("7", 21) + "\x00"}, {math.MaxInt, 23, "0" + strings.Repeat("7", 21) + "\x00"},
		{math.MaxInt, 64, strings.Repeat("0", 42) + strings.Repeat("7", 21) + "\x00"}, {0, 64, strings.Repeat("0", 63) + "\x00"},
	} {
		if b, e := number.PutOctal(c.v, c.n); string(b) != c.want || e != api.OK {
			t.Errorf("%d in %d: %q %d", c.v, c.n, b, int(e))
		}
	}
}

func TestP2_3PutOctalWrongInputs(t *testing.T) {
	refused := func(v, n int, want api.Errno) {
		t.Helper()
		if b, e := number.PutOctal(v, n); len(b) != 0 || e != want {
			t.Errorf("%d in %d: %q %d, not %d", v, n, b, int(e), int(want))
		}
	}
	for _, n := range append(wrongInts(), 0, 1, 65, 66) {
		refused(0, n, api.ErrArg)
		refused(math.MaxInt, n, api.ErrArg) // ahead of ErrBig
	}
	for _, v := range []int{-1, -8, -1 << 40, math.MinInt} {
		refused(v, 2, api.ErrArg)
		refused(v, 64, api.ErrArg)
	}
	for n := 2; n <= 21; n++ {
		over := 1 << (3 * (n - 1))
		if b, e := number.PutOctal(over-1, n); string(b) != strings.Repeat("7", n-1)+"\x00" || e != api.OK {
			t.Errorf("%d in %d: %q %d", over-1, n, b, int(e))
		}
		refused(over, n, api.ErrBig)
		refused(over+1, n, api.ErrBig)
		refused(math.MaxInt, n, api.ErrBig)
	}
}

func TestP2_3OctalReads(t *testing.T) {
	for _, c := range []struct {
		field string
		want  int
	}{
		{"", 0}, {" ", 0}, {"\x00", 0}, {"   \x00 \x00\x00 ", 0}, {"\x00   ", 0}, {"0", 0}, {"7", 7}, {"10", 8}, {"01234567", 01234567},
		{" 17 ", 15}, {"    17", 15}, {"17\x00", 15}, {"17 \x00", 15}, {"17\x00 \x00 ", 15}, {" 0000644\x00", 420}, {"00000000000000000000000000000000000000000000017", 15},
		{"4" + strings.Repeat("0", 20), 1 << 62}, {"3" + strings.Repeat("7", 20), 1<<62 - 1}, {"  0004" + strings.Repeat("0", 20) + " \x00", 1 << 62},
	} {
		given, same := roomy([]byte(c.field)...)
		if v, e := number.Octal(given); v != c.want || e != api.OK || !same() {
			t.Errorf("%q: %d %d", c.field, v, int(e))
		}
	}
}

func TestP2_3OctalWrongInputs(t *testing.T) {
	huge := strings.Repeat("7", 500)
	for _, c := range []struct {
		field string
		want  api.Errno
	}{
		{"8", api.ErrForm}, {"9", api.ErrForm}, {"/", api.ErrForm}, {"-1", api.ErrForm}, {"+1", api.ErrForm}, {"a", api.ErrForm}, {"1a", api.ErrForm}, {"18", api.ErrForm},
		{"1 1", api.ErrForm}, {"1\x001", api.ErrForm}, {"\x001", api.ErrForm}, {" \x00 1", api.ErrForm}, {"\t1", api.ErrForm}, {"1\n", api.ErrForm}, {"1\x01", api.ErrForm}, {"1\x80", api.ErrForm}, {" \xff", api.ErrForm},
		{"4" + strings.Repeat("0", 19) + "1", api.ErrBig}, {"5" + strings.Repeat("0", 20), api.ErrBig}, {strings.Repeat("7", 21), api.ErrBig},
		{"1" + strings.Repeat("0", 21), api.ErrBig}, {"2" + strings.Repeat("0", 21), api.ErrBig}, {"4" + strings.Repeat("0", 21), api.ErrBig}, {"1" + strings.Repeat("0", 64), api.ErrBig}, {huge, api.ErrBig}, {" 0" + huge + " \x00", api.ErrBig},
		{huge + "8", api.ErrForm}, {huge + " 1", api.ErrForm}, {huge + "\x00x", api.ErrForm}, // ErrForm is named ahead of ErrBig
	} {
		if v, e := number.Octal([]byte(c.field)); v != 0 || e != c.want {
			t.Errorf("%q: %d %d, not %d", c.field, v, int(e), int(c.want))
		}
	}
	if v, e := number.Octal(nil); v != 0 || e != api.OK {
		t.Error(v, int(e))
	}
}

func TestP2_3OctalOfEachByte(t *testing.T) {
	for c := range 256 {
		want, e := 0, api.ErrForm
		if c == 0 || c == 32 {
			e = api.OK
		}
		if c >= 48 && c < 56 {
			want, e = c-48, api.OK
		}
		if v, got := number.Octal([]byte{byte(c)}); v != want || got != e {
			t.Errorf("byte %d: %d %d", c, v, int(got))
		}
		behind := api.ErrForm
		switch {
		case c == 0 || c == 32:
			want, behind = 1, api.OK
		case e == api.OK:
			want, behind = 8+want, api.OK
		}
		if v, got := number.Octal([]byte{'1', byte(c)}); v != want || got != behind {
			t.Errorf("1 and byte %d: %d %d", c, v, int(got))
		}
	}
}

func TestP2_3PutOctalIsNewMemory(t *testing.T) {
	one, _ := number.PutOctal(8, 4)
	two, _ := number.PutOctal(8, 4)
	spoil(one)
	if string(two) != "010\x00" {
		t.Errorf("%q", two)
	}
}

func TestP2_4Decimal(t *testing.T) {
	for _, c := range []struct {
		v    int
		want string
	}{
		{0, "0"}, {7, "7"}, {10, "10"}, {-5, "-5"}, {-10, "-10"}, {1000000, "1000000"}, {1 << 40, "1099511627776"},
		{math.MaxInt, "9223372036854775807"}, {math.MinInt, "-9223372036854775808"}, {math.MinInt + 1, "-9223372036854775807"},
	} {
		if s := number.Decimal(c.v); s != c.want {
			t.Errorf("%d: %q", c.v, s)
		}
		if v, e := number.ReadDecimal(c.want); v != c.v || e != api.OK {
			t.Errorf("%q: %d %d", c.want, v, int(e))
		}
	}
}

func TestP2_4ReadDecimalRefusesOtherForms(t *testing.T) {
	for _, s := range []string{
		"", "-", "+", "+5", "+0", "-0", "00", "01", "-01", "007", "--5", "-+5", " 5", "5 ", "5\n", "5\x00", "\x005", "5.0", "5e1", "1_000", "1,000", "0x10", "0b1", "0o7", "a", "5a", "５",
		"9223372036854775808", "-9223372036854775809", "18446744073709551616", "09223372036854775807", "99999999999999999999",
		"-99999999999999999999", strings.Repeat("1", 1000), "-" + strings.Repeat("9", 1000), strings.Repeat("0", 1000),
	} {
		if v, e := number.ReadDecimal(s); v != 0 || e != api.ErrForm {
			t.Errorf("%q: %d %d", s, v, int(e))
		}
	}
}

// edges are ints around which sums and products leave the range.
func edges() []int {
	list := []int{0, 1, 2, 3, 7, 10, 1 << 16, 3037000499, 3037000500, 1<<32 - 1, 1 << 32, 1 << 40, 1 << 61, 1 << 62, math.MaxInt / 3, math.MaxInt / 2, math.MaxInt/2 + 1, math.MaxInt - 1, math.MaxInt}
	for _, v := range list {
		list = append(list, -v)
	}
	return append(list, math.MinInt)
}

// whole tells a number of any size as Add and Mul must.
func whole(v *big.Int) (int, bool) {
	if !v.IsInt64() {
		return 0, false
	}
	return int(v.Int64()), true
}

func TestP2_5AddAndMulAtTheEdges(t *testing.T) {
	for _, a := range edges() {
		for _, b := range edges() {
			x, y := big.NewInt(int64(a)), big.NewInt(int64(b))
			want, there := whole(new(big.Int).Add(x, y))
			if v, ok := number.Add(a, b); v != want || ok != there {
				t.Errorf("%d + %d: %d %v", a, b, v, ok)
			}
			want, there = whole(new(big.Int).Mul(x, y))
			if v, ok := number.Mul(a, b); v != want || ok != there {
				t.Errorf("%d * %d: %d %v", a, b, v, ok)
			}
		}
	}
}

func TestP2_5SomeSumsAndProducts(t *testing.T) {
	if v, ok := number.Add(2, 3); v != 5 || !ok {
		t.Error(v, ok)
	}
	if v, ok := number.Add(math.MaxInt, 1); v != 0 || ok {
		t.Error(v, ok)
	}
	if v, ok := number.Add(math.MinInt, -1); v != 0 || ok {
		t.Error(v, ok)
	}
	if v, ok := number.Add(math.MinInt, math.MaxInt); v != -1 || !ok {
		t.Error(v, ok)
	}
	if v, ok := number.Mul(-3, 5); v != -15 || !ok {
		t.Error(v, ok)
	}
	if v, ok := number.Mul(math.MinInt, -1); v != 0 || ok {
		t.Error(v, ok)
	}
	if v, ok := number.Mul(-1, math.MinInt); v != 0 || ok {
		t.Error(v, ok)
	}
	if v, ok := number.Mul(1<<62, -2); v != math.MinInt || !ok {
		t.Error(v, ok)
	}
	if v, ok := number.Mul(1<<62, 2); v != 0 || ok {
		t.Error(v, ok)
	}
	if v, ok := number.Mul(1<<32, 1<<32); v != 0 || ok { // of which the lowest 64 bits are 0
		t.Error(v, ok)
	}
}

// mixed tells numbers of all sizes, always the same ones.
func mixed() []uint64 {
	var list []uint64
	x := uint64(0x9e3779b97f4a7c15)
	for i := range 3000 {
		x ^= x << 13
		x ^= x >> 7
		x ^= x << 17
		list = append(list, x>>(i%64))
	}
	return list
}

func TestP2_6WhatIsPutIsReadAgain(t *testing.T) {
	for _, v := range mixed() {
		for _, w := range ways() {
			n := 1
			for n < 8 && v > most(n) {
				n++
			}
			b, _ := w.put([]byte{1, 2, 3}, v, n)
			if got, next, e := w.get(b, 3, n); got != v || next != 3+n || e != api.OK {
				t.Errorf("%s: %d in %d: %d %d %d", w.name, v, n, got, next, int(e))
			}
		}
		v >>= 1
		b, _ := number.PutVar([]byte{1, 2, 3}, v)
		if got, next, e := number.Var(b, 3); got != v || next != len(b) || e != api.OK {
			t.Errorf("Var: %d: %d %d %d", v, got, next, int(e))
		}
		b, _ = number.PutOctal(int(v>>1), 22)
		if got, e := number.Octal(b); got != int(v>>1) || e != api.OK {
			t.Errorf("Octal: %d: %d %d", v>>1, got, int(e))
		}
		for _, d := range []int{int(v), -int(v)} {
			if got, e := number.ReadDecimal(number.Decimal(d)); got != d || e != api.OK {
				t.Errorf("Decimal: %d: %d %d", d, got, int(e))
			}
		}
	}
}

func TestP2_6VarHasOneForm(t *testing.T) {
	read := map[uint64]string{}
	tried := []byte{0, 1, 2, 0x7f, 0x80, 0x81, 0xff}
	var try func(b []byte)
	try = func(b []byte) {
		if v, next, e := number.Var(b, 0); e == api.OK && next == len(b) {
			if other, there := read[v]; there {
				t.Errorf("%d is %x and %x", v, other, b)
			}
			read[v] = string(b)
			if again, e := number.PutVar(nil, v); !bytes.Equal(again, b) || e != api.OK {
				t.Errorf("%x is read as %d, which is put as %x", b, v, again)
			}
		}
		if len(b) == 4 {
			return
		}
		for _, c := range tried {
			try(append(b[:len(b):len(b)], c))
		}
	}
	try(nil)
	if len(read) != 4+3*3+3*3*3+3*3*3*3 {
		t.Errorf("%d numbers", len(read))
	}
}

func TestP2_6DecimalHasOneForm(t *testing.T) {
	signs := "-+ 0123456789"
	count := 0
	var try func(s string)
	try = func(s string) {
		if v, e := number.ReadDecimal(s); e == api.OK {
			count++
			if number.Decimal(v) != s {
				t.Errorf("%q is read as %d", s, v)
			}
		}
		if len(s) == 4 {
			return
		}
		for _, c := range []byte(signs) {
			try(s + string(rune(c)))
		}
	}
	try("")
	if count != 10000+999 { // 0 to 9999, and -1 to -999
		t.Errorf("%d numbers", count)
	}
}
