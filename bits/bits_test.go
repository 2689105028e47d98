package bits_test

import (
	"bytes"
	"math"
	"strconv"
	"strings"
	"testing"

	"hamper/api"
	"hamper/bits"
)

var orders = []bool{false, true}

func orderName(high bool) string {
	if high {
		return "high first"
	}
	return "low first"
}

// inEachOrder runs a test once low first and once high first.
func inEachOrder(t *testing.T, f func(t *testing.T, high bool)) {
	t.Helper()
	for _, high := range orders {
		t.Run(orderName(high), func(t *testing.T) { f(t, high) })
	}
}

// digits tells a number's n bits as digits, in the order in which they are written.
func digits(v uint64, n int, high bool) string {
	if n == 0 {
		return ""
	}
	s := strconv.FormatUint(v, 2)
	s = strings.Repeat("0", n-len(s)) + s
	if high {
		return s
	}
	return turned(s)
}

func turned(s string) string {
	b := []byte(s)
	for i, j := 0, len(b)-1; i < j; i, j = i+1, j-1 {
		b[i], b[j] = b[j], b[i]
	}
	return string(b)
}

// packed lays digits into bytes by cutting the text in eights, without any shift of bits.
func packed(t *testing.T, s string, high bool) []byte {
	t.Helper()
	for len(s)%8 != 0 {
		s += "0"
	}
	var out []byte
	for ; s != ""; s = s[8:] {
		eight := s[:8]
		if !high {
			eight = turned(eight)
		}
		v, err := strconv.ParseUint(eight, 2, 8)
		if err != nil {
			t.Fatal(err)
		}
		out = append(out, byte(v))
	}
	return out
}

// samples are numbers of at most n bits: the edges and some patterns between.
func samples(n int) []uint64 {
	all := uint64(math.MaxUint64)
	if n < 64 {
		all = 1<<n - 1
	}
	return []uint64{0, all, 1 & all, all - all>>1, 0x9e3779b97f4a7c15 & all, 0x0123456789abcdef & all}
}

func checkWriter(t *testing.T, w *bits.Writer, length int, want []byte) {
	t.Helper()
	if w.Len() != length {
		t.Errorf("Len = %d, want %d", w.Len(), length)
	}
	if got := w.Bytes(); !bytes.Equal(got, want) {
		t.Errorf("Bytes = % x, want % x", got, want)
	}
	if w.Len() != length {
		t.Errorf("Len behind Bytes = %d, want %d", w.Len(), length)
	}
}

func checkReader(t *testing.T, r *bits.Reader, at, left int) {
	t.Helper()
	if r.At() != at || r.Left() != left {
		t.Errorf("At, Left = %d, %d, want %d, %d", r.At(), r.Left(), at, left)
	}
}

func put(t *testing.T, w *bits.Writer, v uint64, n int) {
	t.Helper()
	if e := w.Put(v, n); e != api.OK {
		t.Fatalf("Put(%d, %d): %v", v, n, e)
	}
}

func get(t *testing.T, r *bits.Reader, n int, want uint64) {
	t.Helper()
	if v, e := r.Get(n); v != want || e != api.OK {
		t.Fatalf("Get(%d) = %d, %v, want %d", n, v, e, want)
	}
}

func getFails(t *testing.T, r *bits.Reader, n int, want api.Errno) {
	t.Helper()
	if v, e := r.Get(n); v != 0 || e != want {
		t.Errorf("Get(%d) = %d, %v, want 0, %v", n, v, e, want)
	}
}

func readBytes(t *testing.T, r *bits.Reader, n int, want []byte) []byte {
	t.Helper()
	b, e := r.Bytes(n)
	if e != api.OK || !bytes.Equal(b, want) {
		t.Fatalf("Bytes(%d) = % x, %v, want % x", n, b, e, want)
	}
	return b
}

func readBytesFails(t *testing.T, r *bits.Reader, n int, want api.Errno) {
	t.Helper()
	if b, e := r.Bytes(n); len(b) != 0 || e != want {
		t.Errorf("Bytes(%d) = % x, %v, want none, %v", n, b, e, want)
	}
}

func TestExampleOfWriting(t *testing.T) {
	inEachOrder(t, func(t *testing.T, high bool) {
		w := bits.New(high)
		put(t, w, 1, 1)
		put(t, w, 2, 2)
		put(t, w, 0, 3)
		want := []byte{0x05}
		if high {
			want = []byte{0xc0}
		}
		checkWriter(t, w, 6, want)
		if e := w.Put(4, 2); e != api.ErrArg {
			t.Errorf("Put(4, 2): %v", e)
		}
		checkWriter(t, w, 6, want)
	})
}

func TestExampleOfReading(t *testing.T) {
	r := bits.NewReader([]byte{5}, false)
	get(t, r, 1, 1)
	get(t, r, 2, 2)
	checkReader(t, r, 3, 5)
	getFails(t, r, 6, api.ErrEnd)
	readBytesFails(t, r, 0, api.ErrArg)
	checkReader(t, r, 3, 5)
}

// P1.1: every count of bits behind every count of bits stands as its digits do.
func TestPutLaysBitsBehind(t *testing.T) {
	inEachOrder(t, func(t *testing.T, high bool) {
		for ahead := range 17 {
			for n := range 65 {
				for _, v := range samples(n) {
					w := bits.New(high)
					put(t, w, 1<<ahead-1, ahead)
					put(t, w, v, n)
					put(t, w, 1, 1)
					text := strings.Repeat("1", ahead) + digits(v, n, high) + "1"
					checkWriter(t, w, len(text), packed(t, text, high))
				}
			}
		}
	})
}

func TestPutOfKnownBytes(t *testing.T) {
	low, high := bits.New(false), bits.New(true)
	for _, w := range []*bits.Writer{low, high} {
		put(t, w, 0x0123456789abcdef, 64)
		put(t, w, 0x177, 12)
	}
	checkWriter(t, low, 76, []byte{0xef, 0xcd, 0xab, 0x89, 0x67, 0x45, 0x23, 0x01, 0x77, 0x01})
	checkWriter(t, high, 76, []byte{0x01, 0x23, 0x45, 0x67, 0x89, 0xab, 0xcd, 0xef, 0x17, 0x70})
}

func TestPutOfNoBits(t *testing.T) {
	inEachOrder(t, func(t *testing.T, high bool) {
		w := bits.New(high)
		put(t, w, 0, 0)
		checkWriter(t, w, 0, nil)
		put(t, w, 255, 8)
		put(t, w, 0, 0)
		checkWriter(t, w, 8, []byte{255})
		if e := w.PutBytes([]byte{7}); e != api.OK {
			t.Errorf("PutBytes at a whole place: %v", e)
		}
	})
}

func TestPutRefuses(t *testing.T) {
	wrong := []struct {
		v uint64
		n int
	}{
		{0, -1}, {0, 65}, {0, math.MinInt}, {0, math.MaxInt}, {1, -1}, {1, 65}, {math.MaxUint64, 65}, {0, -64}, {0, 256}, {0, 1 << 32},
		{1, 0}, {math.MaxUint64, 0}, {2, 1}, {4, 2}, {256, 8}, {1 << 32, 32}, {1 << 63, 63}, {math.MaxUint64, 63}, {1 << 63, 1},
	}
	for n := range 64 {
		wrong = append(wrong, struct {
			v uint64
			n int
		}{1 << n, n})
	}
	inEachOrder(t, func(t *testing.T, high bool) {
		w := bits.New(high)
		for _, x := range wrong {
			if e := w.Put(x.v, x.n); e != api.ErrArg {
				t.Errorf("Put(%d, %d): %v", x.v, x.n, e)
			}
		}
		checkWriter(t, w, 0, nil)
		put(t, w, 5, 3)
		for _, x := range wrong {
			if e := w.Put(x.v, x.n); e != api.ErrArg {
				t.Errorf("Put(%d, %d) behind bits: %v", x.v, x.n, e)
			}
		}
		put(t, w, 1, 1)
		text := digits(5, 3, high) + "1"
		checkWriter(t, w, 4, packed(t, text, high))
	})
}

// P1.2: Align of a writer.
func TestWriterAligns(t *testing.T) {
	inEachOrder(t, func(t *testing.T, high bool) {
		for n := range 25 {
			w := bits.New(high)
			text := strings.Repeat("1", n)
			put(t, w, 1<<n-1, n)
			for len(text)%8 != 0 {
				text += "0"
			}
			for range 2 {
				if e := w.Align(); e != api.OK {
					t.Fatalf("Align: %v", e)
				}
				checkWriter(t, w, len(text), packed(t, text, high))
			}
			put(t, w, 1, 1)
			checkWriter(t, w, len(text)+1, packed(t, text+"1", high))
		}
	})
}

// P1.2: bytes stand as they are, in either order.
func TestPutBytes(t *testing.T) {
	inEachOrder(t, func(t *testing.T, high bool) {
		w := bits.New(high)
		putBytes := func(b []byte, want api.Errno) {
			t.Helper()
			if e := w.PutBytes(b); e != want {
				t.Errorf("PutBytes(% x): %v, want %v", b, e, want)
			}
		}
		putBytes(nil, api.OK)
		putBytes([]byte{}, api.OK)
		checkWriter(t, w, 0, nil)
		putBytes([]byte{0x01, 0x80, 0x35}, api.OK)
		checkWriter(t, w, 24, []byte{0x01, 0x80, 0x35})
		for n := 1; n < 8; n++ {
			put(t, w, 1, 1)
			putBytes([]byte{9}, api.ErrArg)
			putBytes(nil, api.ErrArg)
			putBytes([]byte{}, api.ErrArg)
			if w.Len() != 24+n {
				t.Errorf("Len = %d, want %d", w.Len(), 24+n)
			}
		}
		put(t, w, 1, 1)
		putBytes([]byte{0x12}, api.OK)
		checkWriter(t, w, 40, []byte{0x01, 0x80, 0x35, 0xff, 0x12})
		put(t, w, 1, 1)
		w.Align()
		putBytes([]byte{0x56, 0x78}, api.OK)
		half := byte(0x01)
		if high {
			half = 0x80
		}
		checkWriter(t, w, 64, []byte{0x01, 0x80, 0x35, 0xff, 0x12, half, 0x56, 0x78})
	})
}

// P1.2: Bytes fills what it tells, and leaves the writer at its bit.
func TestWriterGoesOnBehindBytes(t *testing.T) {
	inEachOrder(t, func(t *testing.T, high bool) {
		w := bits.New(high)
		text := ""
		for i := range 40 {
			one := uint64(i*i/3) & 1
			put(t, w, one, 1)
			text += digits(one, 1, high)
			checkWriter(t, w, len(text), packed(t, text, high))
			if e := w.PutBytes(nil); (e == api.OK) != (len(text)%8 == 0) {
				t.Errorf("PutBytes behind Bytes at %d: %v", len(text), e)
			}
		}
	})
}

func TestWriterSharesNoMemory(t *testing.T) {
	w := bits.New(false)
	room := []byte{1, 2, 3, 4}
	in := room[:2]
	w.PutBytes(in)
	put(t, w, 0xff, 8)
	if !bytes.Equal(room, []byte{1, 2, 3, 4}) {
		t.Errorf("what was handed in is now % x", room)
	}
	room[0] = 9
	checkWriter(t, w, 24, []byte{1, 2, 0xff})

	first := w.Bytes()
	first[0] = 77
	_ = append(first, 88)
	second := w.Bytes()
	if !bytes.Equal(second, []byte{1, 2, 0xff}) {
		t.Errorf("Bytes = % x behind a change of what was told", second)
	}
	put(t, w, 5, 8)
	_ = append(first, 99)
	checkWriter(t, w, 32, []byte{1, 2, 0xff, 5})
	if first[0] != 77 || !bytes.Equal(second, []byte{1, 2, 0xff}) {
		t.Error("what was told changed with the writer")
	}
}

func TestWritersAreApart(t *testing.T) {
	a, b := bits.New(true), bits.New(false)
	put(t, a, 3, 2)
	put(t, b, 1, 3)
	checkWriter(t, a, 2, []byte{0xc0})
	checkWriter(t, b, 3, []byte{0x01})
}

// P1.3: every count of bits at every place is the number that its digits are.
func TestGetTellsTheNumber(t *testing.T) {
	inEachOrder(t, func(t *testing.T, high bool) {
		for ahead := range 17 {
			for n := range 65 {
				for _, v := range samples(n) {
					text := strings.Repeat("1", ahead) + digits(v, n, high) + "1"
					b := packed(t, text, high)
					r := bits.NewReader(b, high)
					get(t, r, ahead, 1<<ahead-1)
					checkReader(t, r, ahead, 8*len(b)-ahead)
					get(t, r, n, v)
					checkReader(t, r, ahead+n, 8*len(b)-ahead-n)
					get(t, r, 1, 1)
				}
			}
		}
	})
}

func TestGetOfKnownBytes(t *testing.T) {
	b := []byte{0x01, 0x23, 0x45, 0x67, 0x89, 0xab, 0xcd, 0xef, 0x17, 0x70}
	r := bits.NewReader(b, true)
	get(t, r, 64, 0x0123456789abcdef)
	get(t, r, 12, 0x177)
	r = bits.NewReader(b, false)
	get(t, r, 64, 0xefcdab8967452301)
	get(t, r, 12, 0x017)
}

// P1.3: ErrEnd comes with the first bit too many, at each place, and reads nothing.
func TestGetAtTheEnd(t *testing.T) {
	inEachOrder(t, func(t *testing.T, high bool) {
		b := []byte{0xa5, 0x0f, 0x33, 0x81, 0x7e, 0xc3, 0x18, 0xe7}
		for left := range 64 {
			r := bits.NewReader(b, high)
			if _, e := r.Get(64 - left); e != api.OK {
				t.Fatal(e)
			}
			checkReader(t, r, 64-left, left)
			for n := left + 1; n <= 64; n++ {
				getFails(t, r, n, api.ErrEnd)
			}
			getFails(t, r, 65, api.ErrArg)
			getFails(t, r, -1, api.ErrArg)
			checkReader(t, r, 64-left, left)
			all := ""
			for _, x := range b {
				all += digits(uint64(x), 8, high)
			}
			rest := all[64-left:]
			v, e := r.Get(left)
			if e != api.OK || digits(v, left, high) != rest {
				t.Errorf("Get(%d) of the last bits = %b, %v, want %s", left, v, e, rest)
			}
			checkReader(t, r, 64, 0)
			get(t, r, 0, 0)
			getFails(t, r, 1, api.ErrEnd)
			checkReader(t, r, 64, 0)
		}
	})
}

func TestGetRefuses(t *testing.T) {
	inEachOrder(t, func(t *testing.T, high bool) {
		for _, size := range []int{0, 1, 100} {
			r := bits.NewReader(bytes.Repeat([]byte{0xff}, size), high)
			for _, n := range []int{-1, 65, 66, -64, 256, 1 << 32, math.MinInt, math.MaxInt} {
				getFails(t, r, n, api.ErrArg)
			}
			checkReader(t, r, 0, 8*size)
		}
	})
}

func TestReaderOfNothing(t *testing.T) {
	inEachOrder(t, func(t *testing.T, high bool) {
		for _, b := range [][]byte{nil, {}, make([]byte, 0, 8)} {
			r := bits.NewReader(b, high)
			checkReader(t, r, 0, 0)
			get(t, r, 0, 0)
			readBytes(t, r, 0, nil)
			if e := r.Align(); e != api.OK {
				t.Errorf("Align: %v", e)
			}
			getFails(t, r, 1, api.ErrEnd)
			getFails(t, r, 64, api.ErrEnd)
			readBytesFails(t, r, 1, api.ErrEnd)
			checkReader(t, r, 0, 0)
		}
	})
}

// P1.4: Align of a reader.
func TestReaderAligns(t *testing.T) {
	inEachOrder(t, func(t *testing.T, high bool) {
		for n := range 25 {
			r := bits.NewReader([]byte{0x11, 0x22, 0x33, 0x44}, high)
			if _, e := r.Get(n); e != api.OK {
				t.Fatal(e)
			}
			whole := (n + 7) / 8
			for range 2 {
				if e := r.Align(); e != api.OK {
					t.Errorf("Align: %v", e)
				}
				checkReader(t, r, 8*whole, 32-8*whole)
			}
			get(t, r, 8, uint64([]byte{0x11, 0x22, 0x33, 0x44}[whole]))
		}
	})
}

func TestReaderAlignsAtTheEnd(t *testing.T) {
	inEachOrder(t, func(t *testing.T, high bool) {
		for n := 9; n <= 16; n++ {
			r := bits.NewReader([]byte{0xff, 0xff}, high)
			get(t, r, n, 1<<n-1)
			if e := r.Align(); e != api.OK {
				t.Errorf("Align: %v", e)
			}
			checkReader(t, r, 16, 0)
			getFails(t, r, 1, api.ErrEnd)
			readBytes(t, r, 0, nil)
		}
	})
}

// P1.4: bytes are told as they stand, in either order.
func TestReaderTellsBytes(t *testing.T) {
	inEachOrder(t, func(t *testing.T, high bool) {
		r := bits.NewReader([]byte{0x01, 0x80, 0x35, 0xff, 0x12}, high)
		readBytes(t, r, 0, nil)
		checkReader(t, r, 0, 40)
		readBytes(t, r, 2, []byte{0x01, 0x80})
		checkReader(t, r, 16, 24)
		get(t, r, 8, 0x35)
		readBytes(t, r, 1, []byte{0xff})
		checkReader(t, r, 32, 8)
		readBytesFails(t, r, 2, api.ErrEnd)
		checkReader(t, r, 32, 8)
		readBytes(t, r, 1, []byte{0x12})
		readBytes(t, r, 0, nil)
		readBytesFails(t, r, 1, api.ErrEnd)
		checkReader(t, r, 40, 0)
	})
}

func TestReaderRefusesBytes(t *testing.T) {
	inEachOrder(t, func(t *testing.T, high bool) {
		r := bits.NewReader([]byte{0xff, 0xff, 0xff}, high)
		for _, n := range []int{-1, -8, math.MinInt} {
			readBytesFails(t, r, n, api.ErrArg)
		}
		// Eight times these has no place in an int: some would come out as 0 or below.
		for _, n := range []int{4, 24, math.MaxInt, math.MaxInt/8 + 1, math.MaxInt/4 + 1, math.MaxInt / 8} {
			readBytesFails(t, r, n, api.ErrEnd)
		}
		checkReader(t, r, 0, 24)
		for n := 1; n < 8; n++ {
			get(t, r, 1, 1)
			for _, k := range []int{0, 1, 2, 3, 4, -1, math.MaxInt, math.MinInt} {
				readBytesFails(t, r, k, api.ErrArg)
			}
			checkReader(t, r, n, 24-n)
		}
		get(t, r, 1, 1)
		readBytesFails(t, r, 3, api.ErrEnd)
		readBytes(t, r, 2, []byte{0xff, 0xff})
	})
}

func TestReaderSharesNoMemory(t *testing.T) {
	room := []byte{1, 2, 3, 4, 5, 6}
	r := bits.NewReader(room[:4], false)
	checkReader(t, r, 0, 32)
	room[0], room[3] = 9, 9
	got := readBytes(t, r, 2, []byte{1, 2})
	got[0], got[1] = 77, 77
	_ = append(got, 88, 88)
	readBytes(t, r, 2, []byte{3, 4})
	readBytesFails(t, r, 1, api.ErrEnd)
	getFails(t, r, 1, api.ErrEnd)
	if !bytes.Equal(room, []byte{9, 2, 3, 9, 5, 6}) {
		t.Errorf("what was handed in is now % x", room)
	}
}

// Two readers of the same bytes go on by themselves.
func TestReadersAreApart(t *testing.T) {
	b := []byte{0x0f}
	x, y := bits.NewReader(b, true), bits.NewReader(b, false)
	get(t, x, 4, 0)
	checkReader(t, y, 0, 8)
	get(t, y, 4, 15)
	get(t, x, 4, 15)
	get(t, y, 4, 0)
}

// Rule 1: what no call made answers ErrNil or zero values, and stays as it is.
func TestWriterThatNoCallMade(t *testing.T) {
	for _, w := range []*bits.Writer{nil, {}, new(bits.Writer)} {
		for range 2 {
			for _, n := range []int{0, 1, 64, -1, 65, math.MinInt, math.MaxInt} {
				if e := w.Put(1, n); e != api.ErrNil {
					t.Errorf("Put(1, %d): %v", n, e)
				}
			}
			for _, b := range [][]byte{nil, {}, {1}} {
				if e := w.PutBytes(b); e != api.ErrNil {
					t.Errorf("PutBytes(% x): %v", b, e)
				}
			}
			if e := w.Align(); e != api.ErrNil {
				t.Errorf("Align: %v", e)
			}
			checkWriter(t, w, 0, nil)
		}
	}
}

func TestReaderThatNoCallMade(t *testing.T) {
	for _, r := range []*bits.Reader{nil, {}, new(bits.Reader)} {
		for range 2 {
			for _, n := range []int{0, 1, 64, -1, 65, math.MinInt, math.MaxInt} {
				getFails(t, r, n, api.ErrNil)
				readBytesFails(t, r, n, api.ErrNil)
			}
			if e := r.Align(); e != api.ErrNil {
				t.Errorf("Align: %v", e)
			}
			checkReader(t, r, 0, 0)
		}
	}
}

// step is a number of n bits, or (n below 0) an Align and bytes behind it.
type step struct {
	v uint64
	n int
	b []byte
}

// steps makes a long row of steps from a seed, by a rule that leaves no step to chance.
func steps(seed uint64, count int) []step {
	next := func() uint64 {
		seed ^= seed << 13
		seed ^= seed >> 7
		seed ^= seed << 17
		return seed
	}
	var l []step
	for range count {
		if next()%16 == 0 {
			b := make([]byte, next()%9)
			for i := range b {
				b[i] = byte(next())
			}
			l = append(l, step{n: -1, b: b})
			continue
		}
		n := int(next() % 65)
		v := next()
		if n < 64 {
			v &= 1<<n - 1
		}
		l = append(l, step{v: v, n: n})
	}
	return l
}

// P1.5: a mixed row of numbers, Aligns and bytes is got again, and stands as a model of plain digits says.
func TestWhatIsPutIsGotAgain(t *testing.T) {
	inEachOrder(t, func(t *testing.T, high bool) {
		for seed := range 20 {
			l := steps(uint64(seed)+1, 400)
			w := bits.New(high)
			var text strings.Builder
			for _, s := range l {
				if s.n >= 0 {
					put(t, w, s.v, s.n)
					text.WriteString(digits(s.v, s.n, high))
					continue
				}
				w.Align()
				for text.Len()%8 != 0 {
					text.WriteString("0")
				}
				if e := w.PutBytes(s.b); e != api.OK {
					t.Fatalf("PutBytes: %v", e)
				}
				for _, x := range s.b {
					text.WriteString(digits(uint64(x), 8, high))
				}
			}
			checkWriter(t, w, text.Len(), packed(t, text.String(), high))

			r := bits.NewReader(w.Bytes(), high)
			for _, s := range l {
				if s.n >= 0 {
					get(t, r, s.n, s.v)
					continue
				}
				if e := r.Align(); e != api.OK {
					t.Fatalf("Align: %v", e)
				}
				readBytes(t, r, len(s.b), s.b)
			}
			checkReader(t, r, w.Len(), 8*len(w.Bytes())-w.Len())
		}
	})
}

// P1.5: high first, a number cut in two is got as one, as digits to the base 2 are.
func TestHighFirstNumbersStandAsDigits(t *testing.T) {
	v := uint64(0x9e3779b97f4a7c15)
	for cut := range 65 {
		whole, parts := bits.New(true), bits.New(true)
		put(t, whole, v, 64)
		put(t, parts, v>>(64-cut), cut)
		put(t, parts, v<<cut>>cut, 64-cut)
		checkWriter(t, parts, 64, whole.Bytes())
		r := bits.NewReader(parts.Bytes(), true)
		get(t, r, 64, v)
	}
}

// The other order cut the same way: the lower part stands ahead.
func TestLowFirstNumbersBeginWithTheirLowestBits(t *testing.T) {
	v := uint64(0x9e3779b97f4a7c15)
	for cut := range 65 {
		whole, parts := bits.New(false), bits.New(false)
		put(t, whole, v, 64)
		put(t, parts, v<<(64-cut)>>(64-cut), cut)
		put(t, parts, v>>cut, 64-cut)
		checkWriter(t, parts, 64, whole.Bytes())
		r := bits.NewReader(parts.Bytes(), false)
		get(t, r, 64, v)
	}
}
