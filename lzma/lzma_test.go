package lzma_test

import (
	"bytes"
	"fmt"
	"math"
	"math/rand"
	"slices"
	"testing"

	"hamper/api"
	"hamper/lzma"
)

func props(lc, lp, pb int) lzma.Props { return lzma.Props{Lc: lc, Lp: lp, Pb: pb} }

// text tells a text as bytes, with spare room that must stay as it is.
func text(s string) []byte { return append(make([]byte, 0, len(s)+9), s...) }

// allProps tells all props that may be.
func allProps() []lzma.Props {
	var l []lzma.Props
	for pb := range 5 {
		for lp := range 5 {
			for lc := range 5 - lp {
				l = append(l, props(lc, lp, pb))
			}
		}
	}
	return l
}

func randomText(r *rand.Rand, size, letters int) []byte {
	b := make([]byte, size)
	for i := range b {
		b[i] = byte(r.Intn(letters))
	}
	return b
}

// repeating tells a text of pieces that stood ahead and of new bytes, in runs of any length.
func repeating(r *rand.Rand, size, letters int) []byte {
	b := randomText(r, 1, letters)
	for len(b) < size {
		if r.Intn(3) == 0 {
			b = append(b, randomText(r, 1+r.Intn(4), letters)...)
			continue
		}
		d := 1 + r.Intn(len(b))
		for range 1 + r.Intn(1<<r.Intn(9)) {
			b = append(b, b[len(b)-d])
		}
	}
	return b[:size]
}

// twins are a state and its model, to which each call is told.
type twins struct {
	t *testing.T
	s *lzma.State
	m *model
}

func newTwins(t *testing.T, window int, p lzma.Props) *twins {
	t.Helper()
	w := bareTwins(t, window)
	w.reset(p)
	return w
}

// bareTwins have no props yet.
func bareTwins(t *testing.T, window int) *twins {
	t.Helper()
	s, e := lzma.New(window)
	if e != api.OK || s == nil {
		t.Fatalf("New(%d): error %d", window, int(e))
	}
	return &twins{t, s, newModel(window)}
}

func (w *twins) check(call string, e, want api.Errno) {
	w.t.Helper()
	if e != want {
		w.t.Fatalf("%s: error %d, want %d", call, int(e), int(want))
	}
	if have := w.s.Text(); !bytes.Equal(have, w.m.text()) {
		w.t.Fatalf("%s: the text is %.60q.. (%d), want %.60q.. (%d)", call, have, len(have), w.m.text(), len(w.m.text()))
	}
}

func (w *twins) reset(p lzma.Props) {
	w.t.Helper()
	w.check(fmt.Sprintf("Reset(%v)", p), w.s.Reset(p), w.m.reset(p))
}

func (w *twins) restart() {
	w.t.Helper()
	w.check("Restart", w.s.Restart(), w.m.restart())
}

func (w *twins) forget() {
	w.t.Helper()
	w.check("Forget", w.s.Forget(), w.m.forget())
}

func (w *twins) copy(b []byte) {
	w.t.Helper()
	before := slices.Clone(b[:cap(b)])
	w.check(fmt.Sprintf("Copy(%.60q)", b), w.s.Copy(b), w.m.copy(b))
	w.unchanged(b, before)
	spoil(b)
	w.check("Copy, and other bytes then", api.OK, api.OK)
}

// pack tells what was packed, and of which pieces.
func (w *twins) pack(b []byte) ([]byte, []piece) {
	w.t.Helper()
	before := slices.Clone(b[:cap(b)])
	have, e := w.s.Pack(b)
	want, pieces, wantError := w.m.pack(b)
	w.check(fmt.Sprintf("Pack(%.60q)", b), e, wantError)
	if !bytes.Equal(have, want) {
		w.t.Fatalf("Pack(%.60q) = % .60x (%d), want % .60x (%d)", b, have, len(have), want, len(want))
	}
	w.unchanged(b, before)
	spoil(b)
	spoil(have)
	w.check("Pack, and other bytes then", api.OK, api.OK)
	return want, pieces
}

// unpack tells whether it went well.
func (w *twins) unpack(packed []byte, n int) bool {
	w.t.Helper()
	before := slices.Clone(packed[:cap(packed)])
	have, e := w.s.Unpack(packed, n)
	want, wantError := w.m.unpack(packed, n)
	w.check(fmt.Sprintf("Unpack(% .60x, %d)", packed, n), e, wantError)
	if !bytes.Equal(have, want) {
		w.t.Fatalf("Unpack(% .60x, %d) = %.60q, want %.60q", packed, n, have, want)
	}
	w.unchanged(packed, before)
	spoil(packed)
	spoil(have)
	w.check("Unpack, and other bytes then", api.OK, api.OK)
	return e == api.OK
}

func (w *twins) unpackFails(packed []byte, n int, want api.Errno) {
	w.t.Helper()
	if _, e := w.m.clone().unpack(packed, n); e != want {
		w.t.Fatalf("the model: Unpack(% .60x, %d): error %d, want %d", packed, n, int(e), int(want))
	}
	w.unpack(slices.Clone(packed), n)
}

func (w *twins) unchanged(b, before []byte) {
	w.t.Helper()
	if !bytes.Equal(b[:cap(b)], before) {
		w.t.Fatalf("what was handed in was changed: % .60x, before % .60x", b[:cap(b)], before)
	}
}

// spoil makes bytes others, with their spare room: nobody may look at them any more.
func spoil(b []byte) {
	b = b[:cap(b)]
	for i := range b {
		b[i] ^= 0x55
	}
}

// probe holds the state against its model by all that calls can tell: what it packs and unpacks. Both go on by that.
func (w *twins) probe() {
	w.t.Helper()
	if !w.m.set {
		return
	}
	r := rand.New(rand.NewSource(1400))
	pieces := randomPieces(r, w.m.clone(), 12)
	w.unpack(w.m.clone().write(pieces...), sizeOf(pieces))
	again := slices.Concat(w.m.text()[:min(7, len(w.m.text()))], []byte("probe, probe"))
	w.pack(again)
	w.pack(randomText(r, 20, 3))
}

func sizeOf(pieces []piece) int {
	n := 0
	for _, p := range pieces {
		n += p.size()
	}
	return n
}

// lengths are those at the edges of how they are written, and some between.
var lengths = []int{2, 3, 4, 5, 6, 8, 9, 10, 11, 16, 17, 18, 19, 100, 272, 273}

// randomPieces tells pieces that may be written behind a model, which goes on with them.
func randomPieces(r *rand.Rand, m *model, count int) []piece {
	var pieces []piece
	for range count {
		p := randomPiece(r, m)
		m.behind(p)
		pieces = append(pieces, p)
	}
	return pieces
}

func randomPiece(r *rand.Rand, m *model) piece {
	seen := len(m.text())
	n := lengths[r.Intn(len(lengths))]
	if r.Intn(2) == 0 {
		n = 2 + r.Intn(8)
	}
	switch kind := r.Intn(7); {
	case kind == 0 && seen > 0:
		f := r.Intn(seen)
		if r.Intn(2) == 0 {
			f = min(f, r.Intn(200))
		}
		return piece{kind: aMatch, n: n, f: f}
	case kind == 1 && seen > m.f[0]:
		return piece{kind: aOne}
	case kind <= 3:
		if j := r.Intn(4); seen > m.f[j] {
			return piece{kind: aFar, j: j, n: n}
		}
	}
	return piece{kind: aByte, c: likely(r, m)}
}

// likely tells a byte that is, often, the one F0 + 1 back, or it but for one bit.
func likely(r *rand.Rand, m *model) byte {
	w := byte(m.back(m.f[0] + 1))
	switch r.Intn(4) {
	case 0:
		return w
	case 1:
		return w ^ 1<<r.Intn(8)
	}
	return byte(r.Intn(256))
}

// Examples of the chapter.
func TestExamples(t *testing.T) {
	if b, e := props(3, 0, 2).Byte(); b != 93 || e != api.OK {
		t.Errorf("Byte = %d, error %d", b, int(e))
	}
	if p, e := lzma.Of(225); p != (lzma.Props{}) || e != api.ErrForm {
		t.Errorf("Of(225) = %v, error %d", p, int(e))
	}
	s, _ := lzma.New(9)
	if b, e := s.Unpack(make([]byte, 5), 1); len(b) > 0 || e != api.ErrArg {
		t.Errorf("Unpack without props = %q, error %d", b, int(e))
	}
	s.Reset(props(0, 0, 0))
	if b, e := s.Pack(nil); !bytes.Equal(b, make([]byte, 5)) || e != api.OK {
		t.Errorf("Pack of nothing = % x, error %d", b, int(e))
	}
	if b, e := s.Unpack(make([]byte, 5), 0); len(b) > 0 || e != api.OK {
		t.Errorf("Unpack of nothing = %q, error %d", b, int(e))
	}
}

// P14.1: at the edges of each of the props, and far from them.
func TestPropsAtTheEdges(t *testing.T) {
	for _, x := range []struct {
		p    lzma.Props
		want int // below 0: they may not be
	}{
		{props(0, 0, 0), 0}, {props(4, 0, 0), 4}, {props(0, 4, 0), 36}, {props(0, 0, 4), 180},
		{props(-1, 0, 0), -1}, {props(0, -1, 0), -1}, {props(0, 0, -1), -1},
		{props(5, 0, 0), -1}, {props(0, 5, 0), -1}, {props(0, 0, 5), -1},
		{props(2, 2, 0), 20}, {props(1, 3, 4), 208}, {props(3, 1, 4), 192}, {props(0, 4, 4), 216}, {props(4, 0, 4), 184},
		{props(1, 4, 0), -1}, {props(4, 1, 0), -1}, {props(2, 3, 2), -1}, {props(3, 2, 2), -1}, {props(4, 4, 4), -1},
		{props(-1, 1, 0), -1}, {props(5, -1, 0), -1}, {props(-1, 5, 0), -1},
		{props(8, 0, 2), -1}, {props(9, 0, 0), -1}, {props(256, 0, 0), -1},
		{props(math.MaxInt, math.MaxInt, 0), -1}, {props(math.MinInt, math.MinInt, 0), -1}, {props(0, 0, math.MaxInt), -1},
		{props(math.MaxInt, math.MinInt, 1), -1}, {props(math.MinInt, 0, 0), -1}, {props(0, 0, math.MinInt), -1},
		{props(1, math.MaxInt, 0), -1},
	} {
		if x.p.Valid() != (x.want >= 0) {
			t.Errorf("%v.Valid() = %t", x.p, x.p.Valid())
		}
		b, e := x.p.Byte()
		if x.want < 0 && (b != 0 || e != api.ErrArg) || x.want >= 0 && (int(b) != x.want || e != api.OK) {
			t.Errorf("%v.Byte() = %d, error %d, want %d", x.p, b, int(e), x.want)
		}
	}
}

// P14.1: Of tells the props of all bytes, which have each their own.
func TestPropsOfEachByte(t *testing.T) {
	want := map[int]lzma.Props{}
	for _, p := range allProps() {
		n := (p.Pb*5+p.Lp)*9 + p.Lc
		if _, ok := want[n]; ok {
			t.Fatalf("%d twice", n)
		}
		want[n] = p
		if b, e := p.Byte(); int(b) != n || e != api.OK || !p.Valid() {
			t.Errorf("%v.Byte() = %d, error %d, want %d", p, b, int(e), n)
		}
	}
	if len(want) != 75 {
		t.Fatalf("%d props may be", len(want))
	}
	for n := range 256 {
		p, e := lzma.Of(byte(n))
		if w, ok := want[n]; ok && (p != w || e != api.OK) || !ok && (p != lzma.Props{} || e != api.ErrForm) {
			t.Errorf("Of(%d) = %v, error %d, want %v", n, p, int(e), want[n])
		}
	}
}

// P14.2: windows at their edges.
func TestWindowsAtTheEdges(t *testing.T) {
	for window, want := range map[int]api.Errno{
		math.MinInt: api.ErrArg, -1: api.ErrArg, 0: api.ErrArg, 1: api.OK, 2: api.OK,
		1<<28 - 1: api.OK, 1 << 28: api.OK, 1<<28 + 1: api.ErrArg, math.MaxInt: api.ErrArg,
	} {
		s, e := lzma.New(window)
		if e != want || (s == nil) != (want != api.OK) {
			t.Errorf("New(%d) = %v, error %d", window, s != nil, int(e))
		}
	}
}

// Rule 1: states that are nil, or that no call made; ErrNil comes ahead of all others.
func TestNoState(t *testing.T) {
	big := make([]byte, 1<<20+1)
	for _, s := range []*lzma.State{nil, {}, new(lzma.State)} {
		for call, e := range map[string]api.Errno{
			"Reset":            s.Reset(props(3, 0, 2)),
			"Reset to nothing": s.Reset(props(9, 9, 9)),
			"Restart":          s.Restart(),
			"Forget":           s.Forget(),
			"Copy":             s.Copy([]byte("a")),
			"Copy of much":     s.Copy(big),
		} {
			if e != api.ErrNil {
				t.Errorf("%s: error %d", call, int(e))
			}
		}
		for _, b := range [][]byte{nil, []byte("a"), big} {
			if packed, e := s.Pack(b); len(packed) > 0 || e != api.ErrNil {
				t.Errorf("Pack of %d = % x, error %d", len(b), packed, int(e))
			}
		}
		for _, n := range []int{-1, 0, 1, 1<<20 + 1} {
			if b, e := s.Unpack([]byte{1}, n); len(b) > 0 || e != api.ErrNil {
				t.Errorf("Unpack(.., %d) = %q, error %d", n, b, int(e))
			}
		}
		if b := s.Text(); len(b) > 0 {
			t.Errorf("Text = %q", b)
		}
	}
}

// P14.2, P14.3, P14.4: as long as there are no props, what needs them is refused, ahead of ErrBig and of all that is wrong with bytes.
func TestNoPropsYet(t *testing.T) {
	w := bareTwins(t, 9)
	refused := func() {
		t.Helper()
		w.restart()
		if e := w.s.Restart(); e != api.ErrArg {
			t.Errorf("Restart: error %d", int(e))
		}
		for _, size := range []int{0, 1, 1 << 20, 1<<20 + 1} {
			if b, e := w.s.Pack(make([]byte, size)); len(b) > 0 || e != api.ErrArg {
				t.Errorf("Pack of %d = % x, error %d", size, b, int(e))
			}
		}
		for _, packed := range [][]byte{nil, {0}, {1, 0, 0, 0, 0}, make([]byte, 5), make([]byte, 6)} {
			for _, n := range []int{-1, 0, 1, 1 << 20, 1<<20 + 1} {
				if b, e := w.s.Unpack(packed, n); len(b) > 0 || e != api.ErrArg {
					t.Errorf("Unpack(% x, %d) = %q, error %d", packed, n, b, int(e))
				}
			}
		}
	}
	refused()
	w.copy(text("abcdefghijkl")) // needs none
	w.reset(props(3, 2, 0))      // is refused
	refused()
	w.forget() // needs none
	w.copy(text("abc"))
	refused()
	w.reset(props(1, 1, 1))
	w.restart()
	w.probe()
}

// P14.2, P14.3: as many bytes as may come at once, and one more.
func TestMostBytesAtOnce(t *testing.T) {
	r := rand.New(rand.NewSource(1401))
	const most = 1 << 20
	for _, window := range []int{1, 1000, most, most + 1, 1 << 28} {
		w := newTwins(t, window, props(0, 0, 0))
		w.pack(text("some text"))
		many := randomText(r, most+1, 256)
		w.check("Copy of one byte too many", w.s.Copy(many), api.ErrBig)
		packed, e := w.s.Pack(many)
		w.check("Pack of one byte too many", e, api.ErrBig)
		if len(packed) > 0 {
			t.Errorf("beside an error %d bytes", len(packed))
		}
		w.copy(slices.Clone(many[:most]))
		w.copy(slices.Clone(many[:most-1]))
		w.s.Copy(many)
		w.pack(text("some text again"))
	}
}

// P14.2: Reset, also to the same props, Restart, Forget and Copy change what they should, and leave the rest: what is packed and unpacked behind them says so.
func TestWhatCallsChange(t *testing.T) {
	for _, p := range allProps() {
		for name, call := range map[string]func(w *twins){
			"none":                 func(w *twins) {},
			"Reset":                func(w *twins) { w.reset(p) },
			"Reset to others":      func(w *twins) { w.reset(props(p.Lp, p.Lc, 4-p.Pb)) },
			"a refused Reset":      func(w *twins) { w.reset(props(4, 1, 0)) },
			"Restart":              func(w *twins) { w.restart() },
			"Forget":               func(w *twins) { w.forget() },
			"Copy":                 func(w *twins) { w.copy(text("abcd")) },
			"Copy of nothing":      func(w *twins) { w.copy(nil) },
			"a refused Copy":       func(w *twins) { w.s.Copy(make([]byte, 1<<20+1)) },
			"a refused Pack":       func(w *twins) { w.s.Pack(make([]byte, 1<<20+1)) },
			"Forget and Copy":      func(w *twins) { w.forget(); w.copy(text("abcdefg")) },
			"Forget and Restart":   func(w *twins) { w.forget(); w.restart() },
			"Restart and Copy":     func(w *twins) { w.restart(); w.copy(text("xyz")) },
			"Pack of nothing":      func(w *twins) { w.pack(nil) },
			"Text that is changed": func(w *twins) { spoil(w.s.Text()) },
		} {
			w := newTwins(t, 50, p)
			w.pack(text("banana, bandana, banana, ananas"))
			w.pack(text("nanananananana, ban"))
			call(w)
			w.pack(text("banana"))
			w.probe()
			if t.Failed() {
				t.Fatalf("behind %s, props %v", name, p)
			}
		}
	}
}

// P14.2: behind Forget no byte came: the place is 0, the byte ahead 0, and what F says lies beyond the text; F, Z and chances stay.
func TestBehindForget(t *testing.T) {
	for _, p := range []lzma.Props{props(0, 0, 0), props(4, 0, 4), props(0, 4, 2), props(2, 2, 3)} {
		for _, last := range []piece{{kind: aByte, c: 'x'}, {kind: aMatch, n: 5, f: 3}, {kind: aFar, j: 0, n: 3}, {kind: aFar, j: 2, n: 4}, {kind: aOne}} {
			begin := func() *twins {
				w := newTwins(t, 100, p)
				w.copy(text("\xff\xfe\xfdabcdefghijk\xff\xff\xff"))
				pieces := []piece{{kind: aMatch, n: 2, f: 8}, {kind: aByte, c: 0xff}, {kind: aMatch, n: 3, f: 6}, last}
				w.unpack(w.m.clone().write(pieces...), sizeOf(pieces))
				w.forget()
				return w
			}
			w := begin()
			w.probe()
			w = begin()
			w.unpack(w.m.clone().write(piece{kind: aByte, c: 'q'}), 1)
			w.unpackFails(w.m.clone().write(piece{kind: aFar, j: 1, n: 2}), 2, api.ErrBack)
			w.probe()
			w = begin()
			w.unpackFails(w.m.clone().write(piece{kind: aOne}), 1, api.ErrBack)
			w.copy(text("0123456789"))
			w.unpack(w.m.clone().write(piece{kind: aFar, j: 1, n: 2}), 2)
			w.probe()
		}
	}
}

// P14.2: the text is at most the last window bytes, however they came.
func TestTextIsTheLastWindowBytes(t *testing.T) {
	r := rand.New(rand.NewSource(1402))
	for _, window := range []int{1, 2, 3, 7, 64, 1000, 1 << 28} {
		w := newTwins(t, window, props(2, 1, 2))
		for range 60 {
			b := repeating(r, r.Intn(1<<r.Intn(9)+1)+1, 4)
			switch r.Intn(3) {
			case 0:
				w.copy(b)
			case 1:
				w.pack(b)
			default:
				packed, _, _ := w.m.clone().pack(b)
				w.unpack(packed, len(b))
			}
		}
		w.probe()
	}
}

// Rule 4: what Text, Pack and Unpack hand out is new memory each time.
func TestWhatIsHandedOutIsNew(t *testing.T) {
	w := newTwins(t, 1000, props(3, 0, 2))
	w.pack(text("banana banana"))
	one, two := w.s.Text(), w.s.Text()
	spoil(one)
	if string(two) != "banana banana" || string(w.s.Text()) != "banana banana" {
		t.Error("Text handed out what is kept, or the same twice")
	}
	packed := w.m.clone().write(piece{kind: aFar, j: 0, n: 6})
	b, e := w.s.Unpack(packed, 6)
	if e != api.OK {
		t.Fatal(int(e))
	}
	w.m.unpack(packed, 6)
	spoil(b)
	w.copy(text("more"))
	w.probe()
}
