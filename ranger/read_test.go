package ranger_test

import (
	"bytes"
	"math/rand"
	"slices"
	"testing"

	"hamper/api"
	"hamper/ranger"
)

// checkReadAgain writes a row and reads it again: each number comes back, with the chances that the encoder had, and just behind the last one the decoder is done.
func checkReadAgain(t *testing.T, row []step, n int) {
	t.Helper()
	c := newEncoder(t, n)
	mustWrite(t, c, row...)
	packed := c.Bytes()
	again := newEncoder(t, n)
	d := newDecoder(t, packed, n)
	r, _ := newReader(packed, n)
	for _, s := range row {
		mustWrite(t, again, s)
		mustRead(t, d, s)
		r.do(s)
		if !slices.Equal(again.Chances(), d.Chances()) {
			t.Fatalf("%v: chances %v are written, %v are read", s, cut(again.Chances()), cut(d.Chances()))
		}
		if len(r.rest) > 0 && d.Done() {
			t.Fatalf("%v: done, though %d bytes are left", s, len(r.rest))
		}
		if d.Done() != r.done() {
			t.Fatalf("%v: Done = %v", s, d.Done())
		}
	}
	if !d.Done() {
		t.Fatalf("not done behind the last call, of % x", cut(packed))
	}
}

func TestP13_5ReadAgain(t *testing.T) {
	r := rand.New(rand.NewSource(1307))
	for round := range 3000 {
		n := []int{0, 1, 2, 3, 4, 5, 17, 64, 300}[round%9]
		checkReadAgain(t, randomRow(r, n, r.Intn(60)), n)
	}
	for _, n := range []int{0, 1, 300, 2048} {
		checkReadAgain(t, randomRow(r, n, 5000), n)
	}
	for range 3 {
		checkReadAgain(t, randomRow(r, 65536, 100), 65536)
	}
}

// P13.5: each number of few bits, and each row of few bits by one chance.
func TestP13_5EachNumber(t *testing.T) {
	for _, call := range []int{callDirect, callTree, callReverse} {
		for size := range 9 {
			for v := range powerOf2(size) {
				checkReadAgain(t, []step{{call: call, base: 4, v: v, n: size}, {call: call, base: 4, v: v, n: size}}, 260)
			}
		}
	}
	for bits := range 1 << 12 {
		var row []step
		for i := range 12 {
			row = append(row, step{call: callBit, v: bits >> i & 1})
		}
		checkReadAgain(t, row, 1)
	}
}

// P13.5: long rows, with the chances looked at in the end alone.
func TestP13_5LongRow(t *testing.T) {
	r := rand.New(rand.NewSource(1308))
	c := newEncoder(t, 300)
	row := randomRow(r, 300, 200000)
	mustWrite(t, c, row...)
	d := newDecoder(t, c.Bytes(), 300)
	mustRead(t, d, row...)
	checkChances(t, d.Chances, c.Chances()...)
	if !d.Done() {
		t.Error("not done")
	}
}

// anyBytes are such as no call need have made: any, noughts, bytes ff (at the beginning code is not below the range then), few bytes.
func anyBytes(r *rand.Rand) []byte {
	b := make([]byte, 5+r.Intn(40))
	switch r.Intn(4) {
	case 0:
		for i := range b {
			b[i] = 255
		}
	case 1:
		for i := range b {
			b[i] = []byte{0, 1, 127, 128, 254, 255}[r.Intn(6)]
		}
	default:
		r.Read(b)
	}
	if r.Intn(5) == 0 {
		copy(b[1:], []byte{255, 255, 255, 255})
	}
	b[0] = 0
	return b
}

// P13.4: the reading of any bytes, until they end and behind that, with calls that are refused among the others.
func TestP13_4AnyBytes(t *testing.T) {
	r := rand.New(rand.NewSource(1309))
	for round := range 6000 {
		n := []int{0, 1, 2, 3, 4, 5, 17, 64, 300}[round%9]
		row := randomRow(r, n, 1+r.Intn(40))
		wrong := wrongSteps(n)
		for range 5 {
			row = slices.Insert(row, r.Intn(len(row)+1), wrong[r.Intn(len(wrong))])
		}
		checkRead(t, anyBytes(r), n, row)
	}
}

// P13.4: code that is not below the range, which no encoder makes: 32 bits of it are kept.
func TestP13_4CodeBeyondTheRange(t *testing.T) {
	for _, last := range []byte{253, 254, 255} {
		for tail := range 256 {
			b := append([]byte{0, 255, 255, 255, last}, bytes.Repeat([]byte{byte(tail)}, 20)...)
			checkRead(t, b, 4, slices.Repeat([]step{{call: callDirect, n: 9}, {call: callBit, base: 3}, {call: callTree, n: 2}, {call: callReverse, n: 2}}, 20))
			checkRead(t, b, 4, slices.Repeat([]step{{call: callBit}}, 300))
			checkRead(t, b, 0, slices.Repeat([]step{{call: callDirect, n: 1}}, 300))
		}
	}
}

// P13.4: packed bytes that are cut anywhere, or changed, or have more behind them.
func TestP13_4CutBytes(t *testing.T) {
	r := rand.New(rand.NewSource(1310))
	for round := range 120 {
		n := []int{0, 1, 4, 64}[round%4]
		row := randomRow(r, n, 1+r.Intn(25))
		c := newEncoder(t, n)
		mustWrite(t, c, row...)
		packed := c.Bytes()
		for size := range len(packed) + 1 {
			if size >= 5 {
				checkRead(t, packed[:size], n, append(row, step{call: callDirect, n: 0}))
			} else if c, e := ranger.NewDecoder(packed[:size], n); c != nil || e != api.ErrEnd {
				t.Errorf("NewDecoder of %d bytes = %v, %v", size, c, e)
			}
		}
		checkRead(t, append(packed, 0), n, row)
		for i := 1; i < len(packed); i++ {
			other := bytes.Clone(packed)
			other[i] ^= 1 << r.Intn(8)
			checkRead(t, other, n, row)
		}
	}
}

// P13.4: a byte too many, even a byte 0, and a code that is not 0: neither is done.
func TestP13_4Done(t *testing.T) {
	row := []step{{call: callDirect, v: 77, n: 20}, {call: callBit, v: 1}, {call: callTree, v: 2, n: 2}}
	c := newEncoder(t, 4)
	mustWrite(t, c, row...)
	packed := c.Bytes()
	for _, x := range []struct {
		b    []byte
		done bool
	}{
		{packed, true},
		{append(bytes.Clone(packed), 0), false},
		{append(bytes.Clone(packed[:len(packed)-1]), packed[len(packed)-1]+1), false},
	} {
		d := newDecoder(t, x.b, 4)
		mustRead(t, d, row...)
		if d.Done() != x.done || d.Done() != x.done {
			t.Errorf("% x: Done = %v", x.b, d.Done())
		}
	}
}

// afterEnd asks for what each call tells behind a byte that lacked: ErrEnd, of no bits too, and ErrArg ahead of it; no chance changes any more, but by Set.
func afterEnd(t *testing.T, d *ranger.Decoder, chances ...int) {
	t.Helper()
	n := len(chances)
	for range 2 {
		for chance := range n {
			for _, s := range []step{{call: callBit, base: chance}, {call: callTree, base: chance}, {call: callReverse, base: chance}} {
				if v, e := read(t, d, s); v != 0 || e != api.ErrEnd {
					t.Errorf("%v behind the end = %d, %v", s, v, e)
				}
			}
		}
		for size := range 32 {
			if v, e := d.Direct(size); v != 0 || e != api.ErrEnd {
				t.Errorf("Direct(%d) behind the end = %d, %v", size, v, e)
			}
			for _, call := range []func(base, n int) (int, api.Errno){d.Tree, d.Reverse} {
				if size > 16 || powerOf2(size) > n {
					continue
				}
				if v, e := call(n-powerOf2(size), size); v != 0 || e != api.ErrEnd {
					t.Errorf("Tree or Reverse of %d bits behind the end = %d, %v", size, v, e)
				}
			}
		}
		for _, s := range wrongSteps(n) {
			if v, e := read(t, d, s); v != 0 || e != api.ErrArg {
				t.Errorf("%v behind the end = %d, %v", s, v, e)
			}
		}
		if d.Done() {
			t.Error("done, though a byte lacked")
		}
		checkChances(t, d.Chances, chances...)
		chances = slices.Repeat([]int{700}, n)
		if e := set(t, d.Set, chances); e != api.OK {
			t.Errorf("Set behind the end: %v", e)
		}
		checkChances(t, d.Chances, chances...)
	}
}

// P13.4, by hand: seven direct bits leave a range of 01ffffff (16), the eighth one needs a byte.
func TestP13_4EndWithinDirect(t *testing.T) {
	for size := range 32 {
		d := newDecoder(t, make([]byte, 5), 3)
		v, e := d.Direct(size)
		if size <= 7 {
			if v != 0 || e != api.OK || !d.Done() {
				t.Errorf("Direct(%d) = %d, %v, Done %v", size, v, e, d.Done())
			}
			v, e = d.Direct(8 - size)
		}
		if v != 0 || e != api.ErrEnd {
			t.Errorf("Direct(%d) and what lacks to 8 = %d, %v", size, v, e)
		}
		afterEnd(t, d, 1024, 1024, 1024)
	}
	d := newDecoder(t, make([]byte, 6), 1) // the byte that is there is read
	mustRead(t, d, step{call: callDirect, n: 15})
	if v, e := d.Direct(1); v != 0 || e != api.ErrEnd {
		t.Errorf("the 16th bit of a sixth byte = %d, %v", v, e)
	}
	afterEnd(t, d, 1024)
}

// P13.4, by hand: a chance of 31 makes a range of 03dfffe1 (16), the next bit 0 by 31 one below 2^24: its chance stays as it was.
func TestP13_4EndWithinBit(t *testing.T) {
	d := newDecoder(t, make([]byte, 5), 2)
	mustRead(t, d, step{call: callSet, list: []int{31, 31}}, step{call: callBit, base: 0})
	checkChances(t, d.Chances, 94, 31)
	if !d.Done() {
		t.Error("not done ahead of the bit for which a byte lacks")
	}
	if v, e := d.Bit(1); v != 0 || e != api.ErrEnd {
		t.Errorf("the bit for which a byte lacks = %d, %v", v, e)
	}
	afterEnd(t, d, 94, 31)
}

// The same of a bit 1: of the range that a chance of 2017 leaves, 03e007e0 (16), another bit 1 leaves a part below 2^24.
func TestP13_4EndWithinBit1(t *testing.T) {
	d := newDecoder(t, []byte{0, 255, 255, 255, 254}, 2)
	mustRead(t, d, step{call: callSet, list: []int{2017, 2017}}, step{call: callBit, base: 0, v: 1})
	checkChances(t, d.Chances, 1954, 2017)
	if v, e := d.Bit(1); v != 0 || e != api.ErrEnd {
		t.Errorf("the bit for which a byte lacks = %d, %v", v, e)
	}
	afterEnd(t, d, 1954, 2017)
}

// P13.4: of a tree the bits ahead of the one for which a byte lacks are read: their chances have changed, and those from that bit on have not.
func TestP13_4EndWithinTree(t *testing.T) {
	for _, x := range []struct {
		call, base, n int
		want          []int
	}{
		{callTree, 0, 2, []int{31, 94, 31, 31, 31, 31, 31, 31, 31}},
		{callTree, 0, 3, []int{31, 94, 31, 31, 31, 31, 31, 31, 31}},
		{callTree, 1, 3, []int{31, 31, 94, 31, 31, 31, 31, 31, 31}},
		{callReverse, 0, 2, []int{31, 94, 31, 31, 31, 31, 31, 31, 31}},
		{callReverse, 1, 3, []int{31, 31, 94, 31, 31, 31, 31, 31, 31}},
	} {
		d := newDecoder(t, make([]byte, 5), 9)
		mustRead(t, d, step{call: callSet, list: slices.Repeat([]int{31}, 9)})
		if v, e := read(t, d, step{call: x.call, base: x.base, n: x.n}); v != 0 || e != api.ErrEnd {
			t.Errorf("%v = %d, %v", x, v, e)
		}
		afterEnd(t, d, x.want...)
	}
	for _, call := range []int{callTree, callReverse} { // at the tree's first bit
		d := newDecoder(t, make([]byte, 5), 4)
		mustRead(t, d, step{call: callDirect, n: 7})
		if v, e := read(t, d, step{call: call, n: 2}); v != 0 || e != api.ErrEnd {
			t.Errorf("a tree with no bit = %d, %v", v, e)
		}
		afterEnd(t, d, 1024, 1024, 1024, 1024)
	}
}

// P13.4: what is refused changes nothing, wherever the decoder stands.
func TestP13_4Refuses(t *testing.T) {
	r := rand.New(rand.NewSource(1311))
	for _, n := range []int{0, 1, 2, 3, 16, 100} {
		row := randomRow(r, n, 12)
		c := newEncoder(t, n)
		mustWrite(t, c, row...)
		d := newDecoder(t, c.Bytes(), n)
		m, _ := newReader(c.Bytes(), n)
		for _, s := range row {
			for _, wrong := range wrongSteps(n) {
				checkStepRead(t, d, m, wrong)
				if _, e := m.do(wrong); e != api.ErrArg {
					t.Fatalf("the model takes %v", wrong)
				}
			}
			mustRead(t, d, s)
			m.do(s)
		}
		if !d.Done() {
			t.Error("not done")
		}
	}
}

// P13.4: just as many chances as there are, and one more.
func TestP13_4Edges(t *testing.T) {
	b := append(make([]byte, 5), bytes.Repeat([]byte{0x5a}, 60)...)
	for size := range 17 {
		n := powerOf2(size)
		for _, call := range []int{callTree, callReverse} {
			checkRead(t, b, n, []step{{call: call, base: 1, n: size}, {call: call, n: size}, {call: call, n: size}})
			if n+3 <= 65536 {
				checkRead(t, b, n+3, []step{{call: call, base: 4, n: size}, {call: call, base: 3, n: size}})
			}
			d := newDecoder(t, b, n)
			if _, e := read(t, d, step{call: call, base: 1, n: size}); e != api.ErrArg {
				t.Errorf("a tree of %d bits from 1 on, of %d chances: %v", size, n, e)
			}
			if _, e := read(t, d, step{call: call, n: size}); e != api.OK {
				t.Errorf("a tree of %d bits, of %d chances: %v", size, n, e)
			}
		}
	}
	checkRead(t, b, 0, []step{{call: callDirect, n: 31}, {call: callDirect, n: 0}, {call: callDirect, n: 31}})
	checkRead(t, b, 65536, []step{{call: callBit, base: 65535}, {call: callBit, base: 0}, {call: callBit, base: 65536}})
}

func TestDecoderThatNoCallMade(t *testing.T) {
	for _, d := range []*ranger.Decoder{nil, {}, new(ranger.Decoder)} {
		for range 2 {
			for _, s := range slices.Concat(wrongSteps(0), []step{{call: callDirect}, {call: callDirect, n: 1}, {call: callSet}, {call: callSet, list: []int{}}}) {
				if v, e := read(t, d, s); v != 0 || e != api.ErrNil {
					t.Errorf("read %v = %d, %v", s, v, e)
				}
			}
			if l := d.Chances(); len(l) != 0 || d.Done() {
				t.Errorf("Chances, Done = %v, %v", l, d.Done())
			}
		}
	}
}

// Two decoders of the same bytes go on by themselves.
func TestDecodersAreApart(t *testing.T) {
	b := []byte{0, 0x7f, 0xff, 0xfc, 0x00}
	x, y := newDecoder(t, b, 1), newDecoder(t, b, 1)
	mustRead(t, x, step{call: callBit, v: 1})
	checkChances(t, y.Chances, 1024)
	if !x.Done() || y.Done() {
		t.Error("done without a bit, or not done behind it")
	}
	mustRead(t, y, step{call: callBit, v: 1})
}

// What liblzma packed (without its header; lc, lp and pb are 0) is read bit by bit, and written the same: the text "a", and the mark of its end. From 1 on stand the chances of a byte's tree, behind them those of the mark.
func TestAsLzmaHasIt(t *testing.T) {
	packed := []byte{0x00, 0x30, 0xc3, 0xeb, 0xff, 0xff, 0xff, 0xe1, 0x00, 0x00, 0x00}
	row := []step{
		{call: callBit, base: 0, v: 0},
		{call: callTree, base: 1, v: 'a', n: 8},
		{call: callBit, base: 0, v: 1},
		{call: callBit, base: 300, v: 0},
		{call: callBit, base: 301, v: 0},
		{call: callTree, base: 310, v: 0, n: 3},
		{call: callTree, base: 320, v: 63, n: 6},
		{call: callDirect, v: 1<<26 - 1, n: 26},
		{call: callReverse, base: 400, v: 15, n: 4},
	}
	d := newDecoder(t, packed, 500)
	mustRead(t, d, row...)
	if !d.Done() {
		t.Error("not done")
	}
	c := newEncoder(t, 500)
	mustWrite(t, c, row...)
	checkBytes(t, c, packed)
	checkChances(t, c.Chances, d.Chances()...)
}
