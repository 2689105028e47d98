package ranger_test

import (
	"bytes"
	"math"
	"math/rand"
	"slices"
	"testing"

	"hamper/api"
	"hamper/ranger"
)

// P13.2, P13.3: each call against the models, step by step, with Bytes and Chances asked in between.
func TestP13_2RowsOfCalls(t *testing.T) {
	r := rand.New(rand.NewSource(1302))
	for round := range 3000 {
		n := []int{0, 1, 2, 3, 4, 5, 17, 64, 300}[round%9]
		c, w := newEncoder(t, n), newWriter(n)
		checkEncoder(t, c, w)
		for _, s := range randomRow(r, n, 1+r.Intn(60)) {
			e, want := write(t, c, s), w.do(s)
			if e != want || e != api.OK {
				t.Fatalf("%v: %v, want %v", s, e, want)
			}
			checkEncoder(t, c, w)
		}
	}
}

// P13.2: an encoder that was asked for its Bytes goes on as one that was not.
func TestP13_2LongRows(t *testing.T) {
	r := rand.New(rand.NewSource(1303))
	for _, n := range []int{0, 1, 300, 65536} {
		for range 5 {
			asked, plain, w := newEncoder(t, n), newEncoder(t, n), newWriter(n)
			for _, s := range randomRow(r, n, 2000) {
				mustWrite(t, asked, s)
				mustWrite(t, plain, s)
				w.do(s)
				if r.Intn(50) == 0 {
					asked.Bytes()
				}
			}
			checkEncoder(t, asked, w)
			checkEncoder(t, plain, w)
		}
	}
}

// P13.2: every number of few bits, by each way of writing it.
func TestP13_2EachNumber(t *testing.T) {
	for _, call := range []int{callDirect, callTree, callReverse} {
		for size := range 9 {
			for v := range powerOf2(size) {
				c, w := newEncoder(t, 260), newWriter(260)
				for _, s := range []step{{call: call, base: 4, v: v, n: size}, {call: call, base: 4, v: v, n: size}} {
					mustWrite(t, c, s)
					w.do(s)
				}
				checkEncoder(t, c, w)
			}
		}
	}
}

// P13.2: the edges of what is written: the most bits, the greatest numbers, the last chances.
func TestP13_2Edges(t *testing.T) {
	var row []step
	for _, n := range []int{0, 31} {
		row = append(row, step{call: callDirect, n: n}, step{call: callDirect, v: powerOf2(n) - 1, n: n})
	}
	for _, call := range []int{callTree, callReverse} {
		for _, n := range []int{0, 1, 15, 16} {
			for _, v := range []int{0, powerOf2(n) - 1} {
				row = append(row, step{call: call, v: v, n: n}, step{call: call, base: 65536 - powerOf2(n), v: v, n: n}) // just as many chances as there are
			}
		}
	}
	for _, chance := range []int{0, 65535} {
		row = append(row, step{call: callBit, base: chance, v: 0}, step{call: callBit, base: chance, v: 1})
	}
	c, w := newEncoder(t, 65536), newWriter(65536)
	for _, s := range row {
		mustWrite(t, c, s)
		if e := w.do(s); e != api.OK {
			t.Fatalf("%v: the model refuses it: %v", s, e)
		}
		checkEncoder(t, c, w)
	}
}

// P13.2: numbers of no bits write nothing, but their chances must be there: base + 1 of them.
func TestP13_2NoBits(t *testing.T) {
	for _, n := range []int{0, 1, 2} {
		c := newEncoder(t, n)
		if e := c.Direct(0, 0); e != api.OK {
			t.Errorf("%d chances: Direct(0, 0): %v", n, e)
		}
		for base := range 4 {
			want := api.OK
			if base+1 > n {
				want = api.ErrArg
			}
			if e, f := c.Tree(base, 0, 0), c.Reverse(base, 0, 0); e != want || f != want {
				t.Errorf("%d chances: Tree and Reverse(%d, 0, 0): %v, %v, want %v", n, base, e, f, want)
			}
		}
		checkBytes(t, c, make([]byte, 5))
		checkChances(t, c.Chances, evenByWords(n)...)
	}
}

// P13.2, P13.3: what is refused changes nothing, and what is written behind it is as if it had not been asked for.
func TestP13_2Refuses(t *testing.T) {
	r := rand.New(rand.NewSource(1304))
	for _, n := range []int{0, 1, 2, 3, 16, 100} {
		wrong := slices.Concat(wrongSteps(n), wrongNumbers(n))
		c, w := newEncoder(t, n), newWriter(n)
		for _, s := range randomRow(r, n, 12) {
			mustWrite(t, c, s)
			w.do(s)
			for _, s := range wrong {
				if e := write(t, c, s); e != api.ErrArg {
					t.Errorf("%d chances: write %v: %v", n, s, e)
				}
				if mayBe(s, n, true) {
					t.Fatalf("the model takes %v", s)
				}
			}
			checkEncoder(t, c, w)
		}
	}
}

// P13.2: with the most chances, too, one more than there are is too many.
func TestP13_2RefusesBeyondTheLast(t *testing.T) {
	c := newEncoder(t, 65536)
	for size := range 17 {
		base := 65536 - powerOf2(size) + 1
		if e, f := c.Tree(base, 0, size), c.Reverse(base, 0, size); e != api.ErrArg || f != api.ErrArg {
			t.Errorf("Tree and Reverse(%d, 0, %d): %v, %v", base, size, e, f)
		}
	}
	if e, f := c.Bit(65536, 0), c.Tree(0, 0, 17); e != api.ErrArg || f != api.ErrArg {
		t.Errorf("Bit(65536, 0), Tree(0, 0, 17): %v, %v", e, f)
	}
	checkBytes(t, c, make([]byte, 5))
	checkChances(t, c.Chances, evenByWords(65536)...)
}

// Words: each chance behind each bit, at both sides. Bytes 0 are read as bits 0, the greatest code as a bit 1.
func TestChancesLearn(t *testing.T) {
	for p := 31; p <= 2017; p++ {
		for bit, b := range [][]byte{{0, 0, 0, 0, 0, 0}, {0, 255, 255, 255, 255, 255}} {
			c, d := newEncoder(t, 3), newDecoder(t, b, 3)
			mustWrite(t, c, step{call: callSet, list: []int{500, p, 500}}, step{call: callBit, base: 1, v: bit})
			mustRead(t, d, step{call: callSet, list: []int{500, p, 500}}, step{call: callBit, base: 1, v: bit})
			checkChances(t, c.Chances, 500, behindBit(p, bit), 500)
			checkChances(t, d.Chances, 500, behindBit(p, bit), 500)
		}
	}
}

// Words: chances come to 31 and to 2017, and stay there.
func TestChancesComeToTheirEdges(t *testing.T) {
	for bit, edge := range []int{2017, 31} {
		c, w := newEncoder(t, 1), newWriter(1)
		at := 0 // how many bits it takes
		for i := range 400 {
			if c.Chances()[0] == edge && at == 0 {
				at = i
			}
			mustWrite(t, c, step{call: callBit, v: bit})
			w.do(step{call: callBit, v: bit})
			checkEncoder(t, c, w)
		}
		if at == 0 || at > 200 {
			t.Errorf("bits %d: %d is come to behind %d", bit, edge, at)
		}
		checkChances(t, c.Chances, edge)
		d := newDecoder(t, c.Bytes(), 1)
		for range 400 {
			mustRead(t, d, step{call: callBit, v: bit})
		}
		checkChances(t, d.Chances, edge)
		if !d.Done() {
			t.Errorf("bits %d: not done", bit)
		}
		mustWrite(t, c, step{call: callBit, v: 1 - bit}) // the bit that is least likely
		w.do(step{call: callBit, v: 1 - bit})
		checkEncoder(t, c, w)
		checkChances(t, c.Chances, behindBit(edge, 1-bit))
	}
}

func TestP13_3Bytes(t *testing.T) {
	c := newEncoder(t, 1)
	mustWrite(t, c, step{call: callDirect, v: 0x1234, n: 16}, step{call: callBit, v: 1})
	first := c.Bytes()
	want := bytes.Clone(first)
	checkBytes(t, c, want)
	for i := range first[:cap(first)] { // what was told is nobody's part
		first[:cap(first)][i] = 0xee
	}
	checkBytes(t, c, want)
	second := c.Bytes()
	mustWrite(t, c, step{call: callDirect, v: 0x5678, n: 16}, step{call: callDirect, v: 1, n: 31})
	if !bytes.Equal(second, want) {
		t.Error("what was told changed with the encoder")
	}
	w := newWriter(1)
	for _, s := range []step{{call: callDirect, v: 0x1234, n: 16}, {call: callBit, v: 1}, {call: callDirect, v: 0x5678, n: 16}, {call: callDirect, v: 1, n: 31}} {
		w.do(s)
	}
	checkEncoder(t, c, w)
}

func TestP13_3Chances(t *testing.T) {
	c, d := newEncoder(t, 3), newDecoder(t, make([]byte, 9), 3)
	for _, side := range []struct {
		tell func() []int
		set  func(l []int) api.Errno
		bit  func() api.Errno
	}{
		{c.Chances, c.Set, func() api.Errno { return c.Bit(1, 0) }},
		{d.Chances, d.Set, func() api.Errno { _, e := d.Bit(1); return e }},
	} {
		told := side.tell()
		for i := range told[:cap(told)] {
			told[:cap(told)][i] = 7
		}
		checkChances(t, side.tell, 1024, 1024, 1024)
		if e := set(t, side.set, []int{31, 32, 2017}); e != api.OK { // which changes the list behind the call
			t.Errorf("Set: %v", e)
		}
		checkChances(t, side.tell, 31, 32, 2017)
		told = side.tell()
		if e := side.bit(); e != api.OK {
			t.Errorf("Bit: %v", e)
		}
		if !slices.Equal(told, []int{31, 32, 2017}) {
			t.Errorf("what was told became %v", told)
		}
		checkChances(t, side.tell, 31, 95, 2017)
	}
}

// P13.3: Set takes just as many as there are, each from 31 to 2017; else all stay.
func TestP13_3Set(t *testing.T) {
	for _, n := range []int{0, 1, 2, 5, 65536} {
		c, d := newEncoder(t, n), newDecoder(t, make([]byte, 5), n)
		for _, side := range []struct {
			tell func() []int
			set  func(l []int) api.Errno
		}{{c.Chances, c.Set}, {d.Chances, d.Set}} {
			now := evenByWords(n)
			try := func(l []int, want api.Errno) {
				t.Helper()
				if e := set(t, side.set, l); e != want {
					t.Errorf("%d chances: Set(%v) (%d): %v, want %v", n, cut(l), len(l), e, want)
				}
				if want == api.OK {
					now = l
				}
				checkChances(t, side.tell, now...)
			}
			for _, p := range []int{31, 2017, 1000} {
				try(slices.Repeat([]int{p}, n), api.OK)
				try(slices.Repeat([]int{p}, n+1), api.ErrArg)
				if n > 0 {
					try(slices.Repeat([]int{p}, n-1), api.ErrArg)
				}
			}
			for _, p := range []int{30, 2018, 0, -1, 1024 - 65536, 1024 + 65536, 1024 + 1<<32, math.MinInt, math.MaxInt} {
				for _, at := range []int{0, n / 2, n - 1} {
					if n > 0 {
						l := slices.Repeat([]int{500}, n)
						l[at] = p
						try(l, api.ErrArg)
					}
				}
			}
			if n == 0 {
				try(nil, api.OK)
				try([]int{}, api.OK)
			}
		}
	}
}

func TestEncoderThatNoCallMade(t *testing.T) {
	for _, c := range []*ranger.Encoder{nil, {}, new(ranger.Encoder)} {
		for range 2 {
			for _, s := range slices.Concat(wrongSteps(0), wrongNumbers(0), []step{{call: callDirect}, {call: callDirect, v: 1, n: 1}, {call: callSet}, {call: callSet, list: []int{}}}) {
				if e := write(t, c, s); e != api.ErrNil {
					t.Errorf("write %v: %v", s, e)
				}
			}
			if b, l := c.Bytes(), c.Chances(); len(b) != 0 || len(l) != 0 {
				t.Errorf("Bytes, Chances = % x, %v", b, l)
			}
		}
	}
}

// Two encoders go on by themselves.
func TestEncodersAreApart(t *testing.T) {
	x, y := newEncoder(t, 1), newEncoder(t, 1)
	mustWrite(t, x, step{call: callBit, v: 1})
	checkBytes(t, y, make([]byte, 5))
	checkChances(t, y.Chances, 1024)
	mustWrite(t, y, step{call: callDirect, v: 1, n: 1})
	checkBytes(t, x, []byte{0, 0x7f, 0xff, 0xfc, 0x00})
}
