package sums_test

import (
	"hash/adler32"
	"hash/crc32"
	"hash/crc64"
	"math"
	"math/bits"
	"math/rand"
	"strings"
	"testing"

	"hamper/api"
	"hamper/sums"
)

const digits = "123456789"

// The sums as the document says them, bit by bit.

func lowByBits(r uint32, b []byte) uint32 {
	for _, c := range b {
		for i := range 8 {
			x := r&1 ^ uint32(c>>i&1)
			r >>= 1
			if x == 1 {
				r ^= 0xedb88320
			}
		}
	}
	return r
}

func crc32ByBits(sum uint32, b []byte) uint32 { return ^lowByBits(^sum, b) }

func crcHighByBits(sum uint32, b []byte) uint32 {
	r := ^sum
	for _, c := range b {
		for i := range 8 {
			x := r>>31 ^ uint32(c>>(7-i)&1)
			r <<= 1
			if x == 1 {
				r ^= 0x04c11db7
			}
		}
	}
	return ^r
}

func crc64ByBits(sum uint64, b []byte) uint64 {
	r := ^sum
	for _, c := range b {
		for i := range 8 {
			x := r&1 ^ uint64(c>>i&1)
			r >>= 1
			if x == 1 {
				r ^= 0xc96c5795d7870f42
			}
		}
	}
	return ^r
}

func adlerByBytes(sum uint32, b []byte) uint32 {
	low, high := sum%65536, sum/65536
	for _, c := range b {
		low = (low + uint32(c)) % 65521
		high = (high + low) % 65521
	}
	return high*65536 + low
}

// textOf is Text with the parameters of the other sums.
func textOf(sum uint32, b []byte) uint32 { return sums.Text(sum, string(b)) }

// each is a sum, in 64 bits, with what it must be; all of a narrow one's sums have their highest 32 bits 0.
type each struct {
	name      string
	sum, must func(sum uint64, b []byte) uint64
	most      uint64
}

func wide(f func(uint32, []byte) uint32) func(uint64, []byte) uint64 {
	return func(sum uint64, b []byte) uint64 { return uint64(f(uint32(sum), b)) }
}

func allSums() []each {
	return []each{
		{"Crc32", wide(sums.Crc32), wide(crc32ByBits), math.MaxUint32},
		{"Text", wide(textOf), wide(crc32ByBits), math.MaxUint32},
		{"CrcHigh", wide(sums.CrcHigh), wide(crcHighByBits), math.MaxUint32},
		{"Crc64", sums.Crc64, crc64ByBits, math.MaxUint64},
		{"Adler", wide(sums.Adler), wide(adlerByBytes), math.MaxUint32},
	}
}

// starts are sums to begin with: each bit alone, the ends of the range, some between, and those whose halves Adler would not tell.
func starts() []uint64 {
	s := []uint64{0, 1, 0xcbf43926, 0xfffefffd, 0xfff1fff1, 0xfff0fff0, 0xfff0fff1, 0xffff0000, 0x0000ffff, math.MaxUint32, 0x995dc9bbdf1939fa, math.MaxUint64}
	for i := range 64 {
		s = append(s, 1<<i)
	}
	return s
}

// texts are bytes of many lengths and kinds.
func texts() [][]byte {
	all := make([]byte, 256)
	for i := range all {
		all[i] = byte(i)
	}
	t := [][]byte{nil, {}, {0}, {1}, {0x80}, {0xff}, {0, 0, 0, 0}, {0xff, 0xff, 0xff, 0xff}, all, []byte(digits), []byte("a\xc3\xa4\xe2\x82\xac\xf0\x9f\x93\xa6\xff\xc3\x28")}
	chance := rand.New(rand.NewSource(3))
	for _, n := range []int{2, 3, 7, 8, 9, 15, 16, 17, 63, 64, 65, 1000, 4095, 4096, 4097, 5551, 5552, 5553, 8192, 8193, 20000} {
		b := make([]byte, n)
		chance.Read(b)
		t = append(t, b, []byte(strings.Repeat("\xff", n)), make([]byte, n))
	}
	return t
}

// mustBe asks for a sum of each text from each beginning on.
func mustBe(t *testing.T, names ...string) {
	t.Helper()
	for _, s := range allSums() {
		if !strings.Contains(strings.Join(names, " "), s.name) {
			continue
		}
		for _, b := range texts() {
			from := starts()
			if len(b) > 1000 {
				from = from[:12]
			}
			for _, sum := range from {
				sum &= s.most
				if got, must := s.sum(sum, b), s.must(sum, b); got != must {
					t.Fatalf("%s of %d bytes from %x on: %x, not %x", s.name, len(b), sum, got, must)
				}
			}
		}
	}
}

// ofNothing asks that a sum stays as it is if there are no bytes.
func ofNothing(t *testing.T, name string) {
	t.Helper()
	for _, s := range allSums() {
		for _, sum := range starts() {
			sum &= s.most
			if s.name != name {
				continue
			}
			for _, b := range [][]byte{nil, {}, []byte(digits)[:0]} {
				if got := s.sum(sum, b); got != sum {
					t.Errorf("%s of nothing from %x on: %x", name, sum, got)
				}
			}
		}
	}
}

func TestP3_1Crc32GoesThroughTheLowestBitsFirst(t *testing.T) {
	if x := sums.Crc32(0, []byte(digits)); x != 0xcbf43926 {
		t.Errorf("%x", x)
	}
	if x := sums.Crc32(0, []byte{0}); x != 0xd202ef8d {
		t.Errorf("%x", x)
	}
	mustBe(t, "Crc32")
	ofNothing(t, "Crc32")
	for _, b := range texts() {
		if x, must := sums.Crc32(0, b), crc32.ChecksumIEEE(b); x != must {
			t.Errorf("%d bytes: %x, not %x", len(b), x, must)
		}
	}
}

func TestP3_1EachByteAlone(t *testing.T) {
	for c := range 256 {
		b := []byte{byte(c)}
		for _, s := range allSums() {
			for _, sum := range starts() {
				sum &= s.most
				if got, must := s.sum(sum, b), s.must(sum, b); got != must {
					t.Errorf("%s of the byte %d from %x on: %x, not %x", s.name, c, sum, got, must)
				}
			}
		}
	}
}

func TestP3_1TextIsCrc32OfItsBytes(t *testing.T) {
	if x := sums.Text(0, digits); x != 0xcbf43926 {
		t.Errorf("%x", x)
	}
	if x := sums.Text(7, ""); x != 7 {
		t.Errorf("%x", x)
	}
	mustBe(t, "Text")
	ofNothing(t, "Text")
	for _, s := range []string{"\x00", "\xff", "\xc3", "\u00e4", "\u20ac", "\U0001f4e6", "a\xffb", "\ufffd"} { // bytes, not runes
		for _, sum := range starts() {
			if x, must := sums.Text(uint32(sum), s), sums.Crc32(uint32(sum), []byte(s)); x != must {
				t.Errorf("%q from %x on: %x, not %x", s, sum, x, must)
			}
		}
	}
}

func TestP3_2CrcHighGoesThroughTheHighestBitsFirst(t *testing.T) {
	if x := sums.CrcHigh(0, []byte(digits)); x != 0xfc891918 {
		t.Errorf("%x", x)
	}
	mustBe(t, "CrcHigh")
	ofNothing(t, "CrcHigh")
}

// The two sums of 32 bits are one, seen in mirrors.
func TestP3_2CrcHighMirrorsCrc32(t *testing.T) {
	for _, b := range texts() {
		turned := make([]byte, len(b))
		for i, c := range b {
			turned[i] = bits.Reverse8(c)
		}
		for _, sum := range starts()[:12] {
			x := sums.CrcHigh(uint32(sum), b)
			if must := bits.Reverse32(sums.Crc32(bits.Reverse32(uint32(sum)), turned)); x != must {
				t.Errorf("%d bytes from %x on: %x, not %x", len(b), sum, x, must)
			}
		}
	}
}

func TestP3_3Crc64(t *testing.T) {
	if x := sums.Crc64(0, []byte(digits)); x != 0x995dc9bbdf1939fa {
		t.Errorf("%x", x)
	}
	mustBe(t, "Crc64")
	ofNothing(t, "Crc64")
	table := crc64.MakeTable(crc64.ECMA)
	for _, b := range texts() {
		for _, sum := range starts() {
			if x, must := sums.Crc64(sum, b), crc64.Update(sum, table, b); x != must {
				t.Errorf("%d bytes from %x on: %x, not %x", len(b), sum, x, must)
			}
		}
	}
}

func TestP3_4Adler(t *testing.T) {
	if x := sums.Adler(1, []byte(digits)); x != 0x091e01de {
		t.Errorf("%x", x)
	}
	mustBe(t, "Adler")
	for _, b := range texts() {
		if x, must := sums.Adler(1, b), adler32.Checksum(b); x != must {
			t.Errorf("%d bytes: %x, not %x", len(b), x, must)
		}
	}
}

func TestP3_4AdlerFromHalvesAboveTheModulus(t *testing.T) {
	for _, c := range []struct {
		sum  uint32
		b    []byte
		must uint32
	}{
		{0xfff1fff1, nil, 0xfff1fff1},                          // no byte, no modulo
		{0xffffffff, []byte{}, 0xffffffff},                     // likewise
		{0xfff1fff1, []byte{0}, 0},                             // 65521 is 0
		{0xffffffff, []byte{0}, 0x001c000e},                    // 65535 is 14, and 14 more
		{0xfff0fff0, []byte{1}, 0xfff00000},                    // 65520 and 1
		{0x0000fff0, []byte{0}, 0xfff0fff0},                    // 65520 stays
		{0xfff20000, []byte{0}, 0x00010000},                    // the higher half alone
		{0x0000fff2, []byte{0, 0}, 0x00020001},                 // the lower half alone, twice
		{0xffffffff, []byte{255, 255}, (14+269+524)<<16 | 524}, // from 14 on, both
	} {
		if x := sums.Adler(c.sum, c.b); x != c.must {
			t.Errorf("%x with % x: %x, not %x", c.sum, c.b, x, c.must)
		}
	}
	ofNothing(t, "Adler")
	for low := uint32(65519); low <= 65535; low++ {
		for high := uint32(65519); high <= 65535; high++ {
			for _, b := range [][]byte{{}, {0}, {1}, {255}, {255, 0, 255}} {
				if x, must := sums.Adler(high<<16|low, b), adlerByBytes(high<<16|low, b); x != must {
					t.Errorf("%d and %d with % x: %x, not %x", high, low, b, x, must)
				}
			}
		}
	}
}

// The most that can be added up ahead of a modulo.
func TestP3_4AdlerOfManyGreatBytes(t *testing.T) {
	b := []byte(strings.Repeat("\xff", 300000))
	for _, sum := range []uint32{0, 1, 0xfff0fff0, math.MaxUint32} {
		for _, n := range []int{4096, 5552, 5553, 65521, 65536, len(b)} {
			if x, must := sums.Adler(sum, b[:n]), adlerByBytes(sum, b[:n]); x != must {
				t.Errorf("%d bytes from %x on: %x, not %x", n, sum, x, must)
			}
		}
	}
}

func join(t *testing.T, a, b uint32, n int) uint32 {
	t.Helper()
	x, e := sums.Join(a, b, n)
	if e != api.OK {
		t.Fatalf("Join(%x, %x, %d): error %d", a, b, n, int(e))
	}
	return x
}

func TestP3_5JoinTellsTheSumOfTwoTexts(t *testing.T) {
	if x := join(t, sums.Text(0, "1234"), sums.Text(0, "56789"), 5); x != 0xcbf43926 {
		t.Errorf("%x", x)
	}
	for i := range len(digits) + 1 {
		if x := join(t, sums.Text(0, digits[:i]), sums.Text(0, digits[i:]), len(digits)-i); x != 0xcbf43926 {
			t.Errorf("parted at %d: %x", i, x)
		}
	}
	for _, first := range texts() {
		for _, second := range texts() {
			x := join(t, sums.Crc32(0, first), sums.Crc32(0, second), len(second))
			if must := sums.Crc32(sums.Crc32(0, first), second); x != must {
				t.Fatalf("%d and %d bytes: %x, not %x", len(first), len(second), x, must)
			}
		}
	}
}

func TestP3_5JoinOfAnyNumbers(t *testing.T) {
	for _, a := range starts() {
		for _, b := range []uint32{0, 1, 2, 0xcbf43926, 1 << 31, math.MaxUint32} {
			for _, n := range []int{0, 1, 2, 3, 4, 5, 7, 8, 9, 255, 256, 257, 1000} {
				x := join(t, uint32(a), b, n)
				if must := lowByBits(uint32(a), make([]byte, n)) ^ b; x != must {
					t.Fatalf("Join(%x, %x, %d): %x, not %x", uint32(a), b, n, x, must)
				}
			}
		}
	}
	if x := join(t, 0xdeadbeef, 0x01020304, 0); x != 0xdeadbeef^0x01020304 {
		t.Errorf("no bytes: %x", x)
	}
	if x := join(t, 0x80000000, 5, 1); x != 0x00800000^5 { // eight bits 0 fall out of it
		t.Errorf("one byte: %x", x)
	}
}

// Here the bytes that a stands ahead of are more than can be gone through.
func TestP3_5JoinOfGreatLengths(t *testing.T) {
	const round = math.MaxUint32 // so many steps take each register back to where it was
	lengths := []int{1, 7, 100000, 1 << 20, 1<<28 - 1, 1<<31 - 1, 1 << 31, 1 << 32, 1<<40 + 12345, 1 << 61, 1 << 62, math.MaxInt - 1, math.MaxInt}
	for _, a := range []uint32{0, 1, 2, 0xcbf43926, 1 << 31, math.MaxUint32} {
		if x, must := join(t, a, 9, 1<<20), lowByBits(a, make([]byte, 1<<20))^9; x != must {
			t.Errorf("%x: %x, not %x", a, x, must)
		}
		if x := join(t, a, 0, round); x != a {
			t.Errorf("%x taken through a whole round: %x", a, x)
		}
		for _, n := range lengths {
			x := join(t, a, 77, n)
			if must := join(t, a, 77, n%round); x != must {
				t.Errorf("Join(%x, 77, %d): %x, not %x", a, n, x, must)
			}
			if must := join(t, join(t, a, 0, n/3), 77, n-n/3); x != must {
				t.Errorf("Join(%x, 77, %d): %x, but in two steps %x", a, n, x, must)
			}
			if must := lowByBits(join(t, a, 0, n-1), []byte{0}) ^ 77; x != must {
				t.Errorf("Join(%x, 77, %d): %x, but from one byte less on %x", a, n, x, must)
			}
		}
	}
}

func TestP3_5JoinBelowNothing(t *testing.T) {
	for _, n := range []int{-1, -2, -5, -8, -1 << 31, -1<<31 - 1, -1 << 32, -1 << 61, math.MinInt + 1, math.MinInt} {
		for _, a := range []uint32{0, 1, math.MaxUint32} {
			if x, e := sums.Join(a, 2, n); x != 0 || e != api.ErrArg {
				t.Errorf("Join(%x, 2, %d): %x, error %d", a, n, x, int(e))
			}
		}
	}
}

func TestP3_6SumsGoOn(t *testing.T) {
	all := texts()
	b := all[len(all)-3]
	for _, s := range allSums() {
		for _, sum := range starts()[:12] {
			sum &= s.most
			must := s.sum(sum, b)
			for _, n := range []int{0, 1, 2, 255, 256, 4095, 4096, 4097, len(b) - 1, len(b)} {
				if x := s.sum(s.sum(sum, b[:n]), b[n:]); x != must {
					t.Errorf("%s from %x on, parted at %d: %x, not %x", s.name, sum, n, x, must)
				}
			}
		}
		byOne := uint64(1)
		for i := range 300 {
			byOne = s.sum(byOne, b[i:i+1])
			if x := s.sum(1, b[:i+1]); x != byOne {
				t.Fatalf("%s of %d bytes: %x, one by one %x", s.name, i+1, x, byOne)
			}
		}
	}
}

func TestRule4BytesStayAsTheyAre(t *testing.T) {
	for _, n := range []int{0, 1, 9, 5000} {
		all := []byte(strings.Repeat("\xfe\x01", n) + "spare room")
		was := string(all)
		for _, s := range allSums() {
			x := s.sum(1, all[:n])
			if string(all) != was {
				t.Errorf("%s of %d bytes has changed them, or what lies behind them", s.name, n)
			}
			if must := s.sum(1, []byte(was[:n])); x != must {
				t.Errorf("%s of %d bytes reads what lies behind them: %x, not %x", s.name, n, x, must)
			}
		}
	}
}

func TestRule5TheSameAnswerAgain(t *testing.T) {
	b := []byte(digits)
	for _, s := range allSums() {
		first := s.sum(5, b)
		s.sum(6, []byte("something else"))
		if again := s.sum(5, b); again != first {
			t.Errorf("%s: %x, then %x", s.name, first, again)
		}
	}
}
