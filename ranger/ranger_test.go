package ranger_test

import (
	"bytes"
	"math"
	"math/rand"
	"slices"
	"testing"

	"hamper/api"
	"hamper/ranger"
)

// cut tells what of a list an error shows.
func cut[T any](l []T) []T { return l[:min(len(l), 40)] }

// roomy copies a list into memory with more behind it.
func roomy[T any](l []T, behind ...T) []T { return slices.Concat(l, behind)[:len(l)] }

// same is whether a list, and what is behind it, is as roomy left it.
func same[T comparable](given, l []T, behind ...T) bool {
	return slices.Equal(given[:len(l)+len(behind)], slices.Concat(l, behind))
}

// newEncoder is New, which must succeed.
func newEncoder(t *testing.T, n int) *ranger.Encoder {
	t.Helper()
	c, e := ranger.New(n)
	if c == nil || e != api.OK {
		t.Fatalf("New(%d) = %v, %v", n, c, e)
	}
	return c
}

// newDecoder is NewDecoder, which must succeed. The bytes are handed over with others behind them, and changed behind the call: nothing of either may be seen.
func newDecoder(t *testing.T, b []byte, n int) *ranger.Decoder {
	t.Helper()
	given := roomy(b, 0, 0, 255)
	c, e := ranger.NewDecoder(given, n)
	if c == nil || e != api.OK {
		t.Fatalf("NewDecoder(% x, %d) = %v, %v", cut(b), n, c, e)
	}
	if !same(given, b, 0, 0, 255) {
		t.Fatalf("NewDecoder(% x, %d) changed what was handed in", cut(b), n)
	}
	for i := range given[:cap(given)] {
		given[:cap(given)][i] ^= 0x5a
	}
	return c
}

// set is Set of an encoder or a decoder. The numbers are handed over with others behind them, and changed behind the call.
func set(t *testing.T, call func(l []int) api.Errno, l []int) api.Errno {
	t.Helper()
	given := roomy(l, 1, 1024)
	e := call(given)
	if !same(given, l, 1, 1024) {
		t.Fatalf("Set(%v) changed what was handed in", cut(l))
	}
	for i := range given[:cap(given)] {
		given[:cap(given)][i] = 77
	}
	return e
}

// write is the step of an encoder.
func write(t *testing.T, c *ranger.Encoder, s step) api.Errno {
	t.Helper()
	switch s.call {
	case callBit:
		return c.Bit(s.base, s.v)
	case callDirect:
		return c.Direct(s.v, s.n)
	case callTree:
		return c.Tree(s.base, s.v, s.n)
	case callReverse:
		return c.Reverse(s.base, s.v, s.n)
	}
	return set(t, c.Set, s.list)
}

// read is the step of a decoder.
func read(t *testing.T, c *ranger.Decoder, s step) (int, api.Errno) {
	t.Helper()
	v, e := 0, api.OK
	switch s.call {
	case callBit:
		v, e = c.Bit(s.base)
	case callDirect:
		v, e = c.Direct(s.n)
	case callTree:
		v, e = c.Tree(s.base, s.n)
	case callReverse:
		v, e = c.Reverse(s.base, s.n)
	case callSet:
		e = set(t, c.Set, s.list)
	}
	if e != api.OK && v != 0 {
		t.Fatalf("%v tells %d beside %v", s, v, e)
	}
	return v, e
}

// mustWrite and mustRead are steps that must succeed.
func mustWrite(t *testing.T, c *ranger.Encoder, row ...step) {
	t.Helper()
	for _, s := range row {
		if e := write(t, c, s); e != api.OK {
			t.Fatalf("write %v: %v", s, e)
		}
	}
}

func mustRead(t *testing.T, c *ranger.Decoder, row ...step) {
	t.Helper()
	for _, s := range row {
		if v, e := read(t, c, s); v != s.v || e != api.OK {
			t.Fatalf("read %v = %d, %v", s, v, e)
		}
	}
}

func checkChances(t *testing.T, tell func() []int, want ...int) {
	t.Helper()
	if l := tell(); !slices.Equal(l, want) {
		t.Errorf("Chances = %v, want %v", cut(l), cut(want))
	}
}

func checkBytes(t *testing.T, c *ranger.Encoder, want []byte) {
	t.Helper()
	if b := c.Bytes(); !bytes.Equal(b, want) {
		t.Errorf("Bytes = % x, want % x", b, want)
	}
}

// checkEncoder holds an encoder against the model of what it was told.
func checkEncoder(t *testing.T, c *ranger.Encoder, w *writer) {
	t.Helper()
	byWords, exact := w.bytes()
	if b := c.Bytes(); !bytes.Equal(b, byWords) || !bytes.Equal(b, exact) {
		t.Fatalf("Bytes = % x, by the words % x, as one number % x", b, byWords, exact)
	}
	if l := c.Chances(); !slices.Equal(l, w.chances) {
		t.Fatalf("Chances = %v, want %v", cut(l), cut(w.chances))
	}
}

func checkDecoder(t *testing.T, c *ranger.Decoder, r *reader) {
	t.Helper()
	if got, want := c.Done(), r.done(); got != want {
		t.Fatalf("Done = %v, want %v", got, want)
	}
	if l := c.Chances(); !slices.Equal(l, r.chances) {
		t.Fatalf("Chances = %v, want %v", cut(l), cut(r.chances))
	}
}

// checkStepRead is a step of a decoder and of its model.
func checkStepRead(t *testing.T, c *ranger.Decoder, r *reader, s step) {
	t.Helper()
	v, e := read(t, c, s)
	want, wantE := r.do(s)
	if v != want || e != wantE {
		t.Fatalf("%v = %d, %v, want %d, %v", s, v, e, want, wantE)
	}
	checkDecoder(t, c, r)
}

// checkRead holds the reading of bytes against its model, step by step.
func checkRead(t *testing.T, b []byte, n int, row []step) {
	t.Helper()
	c := newDecoder(t, b, n)
	r, _ := newReader(b, n)
	checkDecoder(t, c, r)
	for _, s := range row {
		checkStepRead(t, c, r, s)
	}
}

// randomList is a list of so many chances, now and then those at the edges.
func randomList(r *rand.Rand, n int) []int {
	l := make([]int, n)
	for i := range l {
		switch r.Intn(6) {
		case 0:
			l[i] = 31
		case 1:
			l[i] = 2017
		default:
			l[i] = 31 + r.Intn(1987)
		}
	}
	return l
}

// randomTree is a base and a number of bits that n chances, of which there is one, have room for.
func randomTree(r *rand.Rand, n int) (base, size int) {
	for size = r.Intn(17); powerOf2(size) > n; size = r.Intn(17) {
	}
	return r.Intn(n - powerOf2(size) + 1), size
}

// randomStep is a step that may be, with n chances, whose bits are mostly noughts, mostly ones, or any: those which are likely, and those which are not.
func randomStep(r *rand.Rand, n, lean int) step {
	some := func(size int) int {
		v := 0
		for range size {
			v *= 2
			if r.Intn(100) < lean {
				v++
			}
		}
		return v
	}
	if n == 0 || r.Intn(4) == 0 {
		size := r.Intn(32)
		return step{call: callDirect, v: some(size), n: size}
	}
	switch r.Intn(8) {
	case 0, 1, 2:
		return step{call: callBit, base: r.Intn(n), v: some(1)}
	case 3, 4:
		base, size := randomTree(r, n)
		return step{call: callTree, base: base, v: some(size), n: size}
	case 5, 6:
		base, size := randomTree(r, n)
		return step{call: callReverse, base: base, v: some(size), n: size}
	}
	return step{call: callSet, list: randomList(r, n)}
}

// randomRow is a row of such steps.
func randomRow(r *rand.Rand, n, size int) []step {
	lean := []int{0, 3, 50, 97, 100}[r.Intn(5)]
	row := make([]step, size)
	for i := range row {
		row[i] = randomStep(r, n, lean)
	}
	return row
}

// wrongSteps are steps that no encoder and no decoder of n chances takes.
func wrongSteps(n int) []step {
	wrong := []step{{call: callSet, list: make([]int, n+1)}, {call: callSet, list: evenByWords(n + 1)}, {call: callSet, list: evenByWords(n + 9)}}
	if n > 0 {
		wrong = append(wrong, step{call: callSet}, step{call: callSet, list: evenByWords(n - 1)})
		for _, p := range []int{30, 2018, 0, -31, -1, 2048, 65536 + 1024, 1<<32 + 1024, math.MinInt, math.MaxInt} {
			for _, at := range []int{0, n / 2, n - 1} {
				l := evenByWords(n)
				l[at] = p
				wrong = append(wrong, step{call: callSet, list: l})
			}
		}
	}
	for _, chance := range []int{-1, n, n + 1, -n - 1, 1 << 32, math.MinInt, math.MaxInt} {
		wrong = append(wrong, step{call: callBit, base: chance}, step{call: callBit, base: chance, v: 1})
	}
	for _, size := range []int{-1, 32, 33, 63, 64, 65, -32, 1 << 32, math.MinInt, math.MaxInt} {
		wrong = append(wrong, step{call: callDirect, n: size})
	}
	for _, call := range []int{callTree, callReverse} {
		for _, size := range []int{-1, 17, 18, 31, 32, 63, 64, 65, -16, 1 << 32, math.MinInt, math.MaxInt} {
			wrong = append(wrong, step{call: call, n: size}, step{call: call, base: -1, n: size})
		}
		for size := range 17 {
			for _, base := range []int{-1, -2, -powerOf2(size), math.MinInt, math.MaxInt, math.MaxInt - powerOf2(size) + 1, math.MaxInt - powerOf2(size), max(0, n-powerOf2(size)+1), n} {
				wrong = append(wrong, step{call: call, base: base, n: size})
			}
		}
	}
	return wrong
}

// wrongNumbers are steps that no encoder of n chances takes, for their numbers alone.
func wrongNumbers(n int) []step {
	var wrong []step
	for chance := range min(n, 3) {
		for _, bit := range []int{-1, 2, 3, 256, -2, 1 << 32, 1<<32 + 1, math.MinInt, math.MaxInt} {
			wrong = append(wrong, step{call: callBit, base: chance, v: bit})
		}
	}
	for size := range 32 {
		for _, v := range []int{-1, powerOf2(size), powerOf2(size) + 1, 1 << 32, 1<<32 + 1, 1 << 62, math.MinInt, math.MaxInt} {
			if v < 0 || v >= powerOf2(size) {
				wrong = append(wrong, step{call: callDirect, v: v, n: size})
			}
			if size <= 16 && powerOf2(size) <= n && (v < 0 || v >= powerOf2(size)) {
				wrong = append(wrong, step{call: callTree, v: v, n: size}, step{call: callReverse, v: v, n: size})
			}
		}
	}
	return wrong
}

func TestExamples(t *testing.T) {
	c := newEncoder(t, 1)
	checkBytes(t, c, []byte{0, 0, 0, 0, 0})
	mustWrite(t, c, step{call: callBit, v: 1})
	checkChances(t, c.Chances, 992)
	mustWrite(t, c, step{call: callBit, v: 0})
	checkChances(t, c.Chances, 1025)
	for _, b := range [][]byte{{1, 0, 0, 0, 0}, {1, 2, 3, 4, 5, 6}} {
		if c, e := ranger.NewDecoder(b, 1); c != nil || e != api.ErrForm {
			t.Errorf("NewDecoder(% x, 1) = %v, %v", b, c, e)
		}
	}
	if c, e := ranger.NewDecoder(make([]byte, 4), 1); c != nil || e != api.ErrEnd {
		t.Errorf("NewDecoder of four bytes = %v, %v", c, e)
	}
}

func TestP13_1New(t *testing.T) {
	for _, n := range []int{0, 1, 2, 255, 65535, 65536} {
		c := newEncoder(t, n)
		checkChances(t, c.Chances, evenByWords(n)...)
		checkBytes(t, c, make([]byte, 5))
		d := newDecoder(t, make([]byte, 5), n)
		checkChances(t, d.Chances, evenByWords(n)...)
		if !d.Done() {
			t.Errorf("NewDecoder(five bytes 0, %d) is not done", n)
		}
	}
	for _, n := range []int{-1, 65537, -65536, 65538, 1 << 32, 1<<32 + 1, math.MinInt, math.MaxInt} {
		if c, e := ranger.New(n); c != nil || e != api.ErrArg {
			t.Errorf("New(%d) = %v, %v", n, c, e)
		}
		for _, b := range [][]byte{nil, {}, {0, 0, 0, 0}, {1, 0, 0, 0}, {0, 0, 0, 0, 0}, {1, 0, 0, 0, 0}} { // whatever else is wrong
			if c, e := ranger.NewDecoder(b, n); c != nil || e != api.ErrArg {
				t.Errorf("NewDecoder(% x, %d) = %v, %v", b, n, c, e)
			}
		}
	}
}

func TestP13_1Bytes(t *testing.T) {
	for _, n := range []int{0, 1, 65536} {
		for size := range 9 {
			for _, first := range []byte{0, 1, 2, 128, 255} {
				b := bytes.Repeat([]byte{first}, size)
				given := roomy(b, 0, 0, 0, 0, 0)
				c, e := ranger.NewDecoder(given, n)
				want := api.OK
				if size < 5 {
					want = api.ErrEnd // whatever the first byte is
				} else if first != 0 {
					want = api.ErrForm
				}
				if e != want || (c != nil) != (want == api.OK) || !same(given, b, 0, 0, 0, 0, 0) {
					t.Errorf("NewDecoder(% x, %d) = %v, %v, want %v", b, n, c, e, want)
				}
			}
		}
	}
	for i := 1; i < 5; i++ { // just the first byte must be 0
		b := make([]byte, 5)
		b[i] = 1
		if newDecoder(t, b, 1).Done() {
			t.Errorf("% x: done, though code is not 0", b)
		}
	}
	if newDecoder(t, make([]byte, 6), 1).Done() {
		t.Error("done, though a byte is left")
	}
}

// P13.2, by hand: eight direct bits take one byte. The range is halved from ffffffff (16) on, to 00ffffff (16) at the eighth.
func TestP13_2DirectByHand(t *testing.T) {
	for _, x := range []struct {
		v, n int
		want []byte
	}{
		{0, 0, []byte{0, 0, 0, 0, 0}},
		{0, 1, []byte{0, 0, 0, 0, 0}},
		{1, 1, []byte{0, 0x7f, 0xff, 0xff, 0xff}},
		{2, 2, []byte{0, 0x7f, 0xff, 0xff, 0xff}}, // the highest first
		{1, 2, []byte{0, 0x3f, 0xff, 0xff, 0xff}},
		{3, 2, []byte{0, 0xbf, 0xff, 0xff, 0xfe}},
		{127, 7, []byte{0, 0xfd, 0xff, 0xff, 0xf9}},
		{0, 8, []byte{0, 0, 0, 0, 0, 0}},
		{1, 8, []byte{0, 0, 0xff, 0xff, 0xff, 0}},
		{255, 8, []byte{0, 0xfe, 0xff, 0xff, 0xf8, 0}},
	} {
		c := newEncoder(t, 0)
		mustWrite(t, c, step{call: callDirect, v: x.v, n: x.n})
		checkBytes(t, c, x.want)
		d := newDecoder(t, x.want, 0)
		mustRead(t, d, step{call: callDirect, v: x.v, n: x.n})
		if !d.Done() {
			t.Errorf("Direct(%d) of % x: not done", x.n, x.want)
		}
	}
}

// P13.2, by hand: (2^32 - 1) / 2048 is 001fffff (16), of which a chance of 1024 makes 7ffffc00 (16).
func TestP13_2BitByHand(t *testing.T) {
	for _, x := range []struct {
		chances []int
		row     []step
		want    []byte
		behind  []int
	}{
		{[]int{1024}, []step{{call: callBit, v: 0}}, []byte{0, 0, 0, 0, 0}, []int{1056}},
		{[]int{1024}, []step{{call: callBit, v: 1}}, []byte{0, 0x7f, 0xff, 0xfc, 0x00}, []int{992}},
		{[]int{31}, []step{{call: callBit, v: 1}}, []byte{0, 0x03, 0xdf, 0xff, 0xe1}, []int{31}},
		{[]int{2017}, []step{{call: callBit, v: 1}}, []byte{0, 0xfc, 0x1f, 0xf8, 0x1f}, []int{1954}},
		{[]int{1024, 31}, []step{{call: callBit, base: 1, v: 1}}, []byte{0, 0x03, 0xdf, 0xff, 0xe1}, []int{1024, 31}},
		{[]int{1024, 1024}, []step{{call: callTree, v: 1, n: 1}}, []byte{0, 0x7f, 0xff, 0xfc, 0x00}, []int{1024, 992}},
		{[]int{1024, 1024}, []step{{call: callReverse, v: 1, n: 1}}, []byte{0, 0x7f, 0xff, 0xfc, 0x00}, []int{1024, 992}},
		{[]int{1024, 1024, 1024, 1024}, []step{{call: callTree, v: 2, n: 2}}, []byte{0, 0x7f, 0xff, 0xfc, 0x00}, []int{1024, 992, 1024, 1056}},
		{[]int{1024, 1024, 1024, 1024}, []step{{call: callReverse, v: 2, n: 2}}, []byte{0, 0x3f, 0xff, 0xfc, 0x00}, []int{1024, 1056, 992, 1024}},
		{[]int{1024, 1024, 1024, 1024}, []step{{call: callTree, v: 1, n: 2}}, []byte{0, 0x3f, 0xff, 0xfc, 0x00}, []int{1024, 1056, 992, 1024}},
		{[]int{1024, 1024, 1024, 1024, 1024}, []step{{call: callReverse, base: 1, v: 1, n: 2}}, []byte{0, 0x7f, 0xff, 0xfc, 0x00}, []int{1024, 1024, 992, 1024, 1056}},
	} {
		c := newEncoder(t, len(x.chances))
		mustWrite(t, c, step{call: callSet, list: x.chances})
		mustWrite(t, c, x.row...)
		checkBytes(t, c, x.want)
		checkChances(t, c.Chances, x.behind...)
		d := newDecoder(t, x.want, len(x.chances))
		mustRead(t, d, step{call: callSet, list: x.chances})
		mustRead(t, d, x.row...)
		checkChances(t, d.Chances, x.behind...)
		if !d.Done() {
			t.Errorf("% x: not done", x.want)
		}
	}
}
