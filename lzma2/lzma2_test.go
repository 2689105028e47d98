package lzma2_test

import (
	"bytes"
	"math"
	"math/rand"
	"slices"
	"testing"

	"hamper/api"
	"hamper/lzma"
	"hamper/lzma2"
)

func props(lc, lp, pb int) lzma.Props { return lzma.Props{Lc: lc, Lp: lp, Pb: pb} }

// text tells a text as bytes, with spare room that must stay as it is.
func text(s string) []byte { return append(make([]byte, 0, len(s)+9), s...) }

func randomText(r *rand.Rand, size, letters int) []byte {
	b := make([]byte, size)
	for i := range b {
		b[i] = byte(r.Intn(letters))
	}
	return b
}

// repeating tells a text of pieces that stood ahead and of new bytes, in runs of any length.
func repeating(r *rand.Rand, size, letters int) []byte {
	b := randomText(r, min(size, 1), letters)
	for len(b) < size {
		if r.Intn(3) == 0 {
			b = append(b, randomText(r, 1+r.Intn(4), letters)...)
			continue
		}
		d := 1 + r.Intn(len(b))
		for range 1 + r.Intn(1<<r.Intn(9)) {
			b = append(b, b[len(b)-d])
		}
	}
	return b[:size]
}

// spoil makes bytes others, with their spare room: nobody may look at them any more.
func spoil(b []byte) {
	b = b[:cap(b)]
	for i := range b {
		b[i] ^= 0x55
	}
}

// unlike tells whether bytes, or their spare room, were changed.
func unlike(b, before []byte) bool { return !bytes.Equal(b[:cap(b)], before) }

// makes holds Make against the words, and tells what it made.
func makes(t *testing.T, b []byte, block int) []byte {
	t.Helper()
	before := slices.Clone(b[:cap(b)])
	have, e := lzma2.Make(b, block)
	want, wantError := modelMake(b, block)
	if e != wantError || !bytes.Equal(have, want) {
		t.Fatalf("Make(%.60q (%d), %d) = % .60x (%d), error %d, want % .60x (%d), error %d", b, len(b), block, have, len(have), int(e), want, len(want), int(wantError))
	}
	spoil(have)
	if unlike(b, before) {
		t.Fatalf("Make(%.60q (%d), %d): what was handed in is changed, or part of what is handed out", before, len(b), block)
	}
	return want
}

// reads holds Read against the words, and tells what it read.
func reads(t *testing.T, b []byte, window, most int) ([]byte, int, api.Errno) {
	t.Helper()
	before := slices.Clone(b[:cap(b)])
	have, used, e := lzma2.Read(b, window, most)
	want, wantUsed, wantError := modelRead(b, window, most)
	if e != wantError || used != wantUsed || !bytes.Equal(have, want) {
		t.Fatalf("Read(% .80x (%d), %d, %d) = %.60q (%d), %d, error %d, want %.60q (%d), %d, error %d", b, len(b), window, most, have, len(have), used, int(e), want, len(want), wantUsed, int(wantError))
	}
	spoil(have)
	if unlike(b, before) {
		t.Fatalf("Read(% .80x (%d), %d, %d): what was handed in is changed, or part of what is handed out", before, len(b), window, most)
	}
	return want, used, e
}

// sizes holds Sizes against the words, and tells what it told.
func sizes(t *testing.T, b []byte) ([]int, api.Errno) {
	t.Helper()
	before := slices.Clone(b[:cap(b)])
	have, e := lzma2.Sizes(b)
	want, wantError := modelSizes(b)
	if e != wantError || !slices.Equal(have, want) {
		t.Fatalf("Sizes(% .80x (%d)) = %v, error %d, want %v, error %d", b, len(b), have, int(e), want, int(wantError))
	}
	if unlike(b, before) {
		t.Fatalf("Sizes(% .80x (%d)): what was handed in is changed", before, len(b))
	}
	return have, e
}

// readFails asks that Read tells just that error.
func readFails(t *testing.T, b []byte, window, most int, want api.Errno) {
	t.Helper()
	have, used, e := lzma2.Read(b, window, most)
	if e != want || len(have) != 0 || used != 0 {
		t.Errorf("Read(% .60x (%d), %d, %d) = %.60q, %d, error %d, want error %d", b, len(b), window, most, have, used, int(e), int(want))
	}
}

// readTells asks that Read tells just that.
func readTells(t *testing.T, b []byte, window, most int, want []byte, wantUsed int) {
	t.Helper()
	have, used, e := lzma2.Read(b, window, most)
	if e != api.OK || !bytes.Equal(have, want) || used != wantUsed {
		t.Errorf("Read(% .60x (%d), %d, %d) = %.60q (%d), %d, error %d, want %.60q (%d), %d", b, len(b), window, most, have, len(have), used, int(e), want, len(want), wantUsed)
	}
}

// sizesFails asks that Sizes tells just that error.
func sizesFails(t *testing.T, b []byte, want api.Errno) {
	t.Helper()
	if l, e := lzma2.Sizes(b); e != want || len(l) != 0 {
		t.Errorf("Sizes(% .60x (%d)) = %v, error %d, want error %d", b, len(b), l, int(e), int(want))
	}
}

// sizesTells asks that Sizes tells just that.
func sizesTells(t *testing.T, b []byte, want ...int) {
	t.Helper()
	if l, e := lzma2.Sizes(b); e != api.OK || !slices.Equal(l, want) {
		t.Errorf("Sizes(% .60x (%d)) = %v, error %d, want %v", b, len(b), l, int(e), want)
	}
}

// writer writes chunks of any kinds by a state that goes along.
type writer struct {
	s     *lzma.State
	out   []byte
	text  []byte // that comes out
	sizes []int
}

func newWriter(window int) *writer {
	s, _ := lzma.New(window)
	return &writer{s: s}
}

// put writes a chunk of some bytes: its kind without the bits of how many these are, props of those from c0 on.
func (w *writer) put(kind byte, p lzma.Props, b []byte) {
	m := meaningOf(kind)
	if m.forget {
		w.s.Forget()
	}
	if m.reset {
		w.s.Reset(p)
	}
	if m.restart {
		w.s.Restart()
	}
	n := len(b) - 1
	body := b
	if m.packed {
		body, _ = w.s.Pack(b)
		size := len(body) - 1
		w.out = append(w.out, kind+byte(n/65536), byte(n/256), byte(n), byte(size/256), byte(size))
	} else {
		w.s.Copy(b)
		w.out = append(w.out, kind, byte(n/256), byte(n))
	}
	if m.reset {
		c, _ := p.Byte()
		w.out = append(w.out, c)
	}
	w.out = append(w.out, body...)
	w.text = append(w.text, b...)
	w.sizes = append(w.sizes, len(b))
}

// ended tells the chunks so far, and the end.
func (w *writer) ended() []byte { return append(slices.Clone(w.out), 0) }

// The chapter's examples.
func TestExamples(t *testing.T) {
	if b, e := lzma2.Make(nil, 9); e != api.OK || !bytes.Equal(b, []byte{0}) {
		t.Errorf("Make(nothing, 9) = % x, error %d", b, int(e))
	}
	if b, e := lzma2.Make([]byte("a"), 9); e != api.OK || string(b) != "\x01\x00\x00a\x00" {
		t.Errorf("Make(a, 9) = % x, error %d", b, int(e))
	}
	readTells(t, []byte{0}, 1, 0, nil, 1)
	readFails(t, []byte("\x02\x00\x00a\x00"), 9, 9, api.ErrForm)
	readFails(t, []byte("\x01\x00\x00a"), 9, 9, api.ErrEnd)
	if n, e := lzma2.Window(22); e != api.OK || n != 8388608 {
		t.Errorf("Window(22) = %d, error %d", n, int(e))
	}
	if n, e := lzma2.Window(41); e != api.ErrForm || n != 0 {
		t.Errorf("Window(41) = %d, error %d", n, int(e))
	}
}

// P15.1: windows told by hand: the first ones, those about 2^28, the last ones, and bytes above.
func TestWindowsByHand(t *testing.T) {
	for _, x := range []struct {
		b    byte
		want int
		e    api.Errno
	}{
		{0, 4096, api.OK}, {1, 6144, api.OK}, {2, 8192, api.OK}, {3, 12288, api.OK},
		{21, 6291456, api.OK}, {22, 8388608, api.OK}, {23, 12582912, api.OK},
		{29, 100663296, api.OK}, {30, 134217728, api.OK}, {31, 201326592, api.OK},
		{32, 268435456, api.OK}, {33, 268435456, api.OK}, {34, 268435456, api.OK},
		{39, 268435456, api.OK}, {40, 268435456, api.OK},
		{41, 0, api.ErrForm}, {42, 0, api.ErrForm}, {128, 0, api.ErrForm}, {255, 0, api.ErrForm},
	} {
		if n, e := lzma2.Window(x.b); n != x.want || e != x.e {
			t.Errorf("Window(%d) = %d, error %d, want %d, error %d", x.b, n, int(e), x.want, int(x.e))
		}
	}
}

// P15.1: of each byte.
func TestWindowOfEachByte(t *testing.T) {
	for b := range 256 {
		want, wantError := 2+b%2, api.OK
		for range b/2 + 11 {
			want = min(2*want, 1<<40)
		}
		want = min(want, 1<<28)
		if b > 40 {
			want, wantError = 0, api.ErrForm
		}
		if n, e := lzma2.Window(byte(b)); n != want || e != wantError {
			t.Errorf("Window(%d) = %d, error %d, want %d, error %d", b, n, int(e), want, int(wantError))
		}
	}
}

// P15.2: block at its edges, ahead of a text that is too long.
func TestBlocksAtTheEdges(t *testing.T) {
	tooLong := make([]byte, api.MaxBytes+1)
	for _, block := range []int{math.MinInt, -1, 0, 65537, math.MaxInt} {
		for _, b := range [][]byte{nil, text("a"), tooLong} {
			if have, e := lzma2.Make(b, block); e != api.ErrArg || len(have) != 0 {
				t.Errorf("Make(.. (%d), %d) = % .60x, error %d", len(b), block, have, int(e))
			}
		}
	}
	for _, block := range []int{1, 2, 65535, 65536} {
		if have, e := lzma2.Make(tooLong, block); e != api.ErrBig || len(have) != 0 {
			t.Errorf("Make(.. (%d), %d) = % .60x, error %d", len(tooLong), block, have, int(e))
		}
		makes(t, nil, block)
		makes(t, text("ab"), block)
	}
	if have := makes(t, text("abc"), 1); string(have) != "\x01\x00\x00a\x02\x00\x00b\x02\x00\x00c\x00" {
		t.Errorf("% x", have)
	}
}

// P15.3: the arguments at their edges, ahead of all that is wrong with the bytes.
func TestReadArguments(t *testing.T) {
	for _, b := range [][]byte{nil, {0}, {3}, {2, 0, 0, 'a', 0}, []byte("\x01\x00\x00a\x00")} {
		for _, window := range []int{math.MinInt, -1, 0, 1<<28 + 1, math.MaxInt} {
			for _, most := range []int{-1, 0, 1, api.MaxBytes, api.MaxBytes + 1} {
				readFails(t, b, window, most, api.ErrArg)
			}
		}
		for _, most := range []int{math.MinInt, -1, api.MaxBytes + 1, math.MaxInt} {
			for _, window := range []int{0, 1, 1 << 28, 1<<28 + 1} {
				readFails(t, b, window, most, api.ErrArg)
			}
		}
	}
	for _, window := range []int{1, 2, 1<<28 - 1, 1 << 28} {
		for _, most := range []int{0, 1, api.MaxBytes - 1, api.MaxBytes} {
			readTells(t, []byte{0}, window, most, nil, 1)
			readFails(t, nil, window, most, api.ErrEnd)
			if most > 0 {
				readTells(t, []byte("\x01\x00\x00a\x00"), window, most, []byte("a"), 5)
			}
		}
		readFails(t, []byte("\x01\x00\x00a\x00"), window, 0, api.ErrBig)
	}
}

// Rule 4: what is handed out is not part of what is handed in, nor of what another call hands out.
func TestWhatIsHandedOutIsNew(t *testing.T) {
	chunks := text("\x01\x00\x02abc\x02\x00\x01de\x00")
	one, _, _ := lzma2.Read(chunks, 9, 9)
	two, _, _ := lzma2.Read(chunks, 9, 9)
	spoil(one)
	spoil(chunks)
	if string(two) != "abcde" {
		t.Errorf("%q", two)
	}
	b := text("banana")
	made, _ := lzma2.Make(b, 9)
	again, _ := lzma2.Make(b, 9)
	spoil(made)
	spoil(b)
	if string(again) != "\x01\x00\x05banana\x00" {
		t.Errorf("% x", again)
	}
	empty, _ := lzma2.Make(nil, 9)
	spoil(empty)
	if empty, _ = lzma2.Make(nil, 9); !bytes.Equal(empty, []byte{0}) {
		t.Errorf("% x", empty)
	}
	spoil(chunks)
	l, _ := lzma2.Sizes(chunks)
	m, _ := lzma2.Sizes(chunks)
	for i := range l[:cap(l)] {
		l[:cap(l)][i] = -1
	}
	if !slices.Equal(m, []int{3, 2}) {
		t.Error(m)
	}
}
