package lzma_test

import (
	"bytes"
	"encoding/hex"
	"math"
	"math/rand"
	"slices"
	"testing"

	"hamper/api"
	"hamper/lzma"
)

// P14.4: what liblzma packed is unpacked: with far ones of each kind, and one byte of F0, which Pack never writes.
func TestUnpackWhatOthersPacked(t *testing.T) {
	q := bytes.Repeat([]byte("\x80\x00\xff"), 14)
	like := slices.Concat(q[:27], []byte("q"), q[:15], bytes.Repeat([]byte("\x00\x80"), 12), bytes.Repeat([]byte("\x80\x00\xfe\xff"), 3))
	for _, x := range []struct {
		p      lzma.Props
		text   string
		packed string
	}{
		{props(3, 0, 2), shells, "00399a08ce76d98e26020c63d1c15c63f51cbfa24ed73c724db281741e0d2e831b7e2c1f25650563956ae87aa2edfd4185d66d250199b56c0a40feebde473d3db66322975b84d8150f69249c2895c155687be1"},
		{props(0, 0, 0), "banana bandana banana bandanas, banana!", "003119572ad233da4dd0bf2a7f5702a459b2904c0000"},
		{props(0, 2, 1), string(squares()), "0000687ebf0a87476538ca032bf8673435ab2de1f1a30407299dece727cb37e84de040b7dfd77a15eb10162c8529a591b469484cff60c2d7e4d211b3e6be71df89c8b311a7dde5e2aca1f5427c"},
		{props(1, 3, 4), string(sevens()), "000001c0599ead8751e4b892804e5441915ef32926531b67c1cdeb246ad14ceb3000"},
		{props(4, 0, 3), string(like), "0040001bf60e8ec2335cb987db990d64d2650b115680"},
	} {
		packed, err := hex.DecodeString(x.packed)
		if err != nil {
			t.Fatal(err)
		}
		s := newState(t, 4096, x.p)
		if b, e := s.Unpack(packed, len(x.text)); e != api.OK || string(b) != x.text {
			t.Errorf("%.20q with %v: %q, error %d", x.text, x.p, b, int(e))
		}
		w := newTwins(t, 4096, x.p)
		w.unpack(packed, len(x.text))
		w.probe()
	}
}

// P14.4: n at its edges, ahead of all that is wrong with the bytes.
func TestUnpackHowMany(t *testing.T) {
	const most = 1 << 20
	w := newTwins(t, 1<<28, props(0, 0, 0))
	w.pack(text("ab"))
	for _, n := range []int{math.MinInt, -1, most + 1, math.MaxInt} {
		for _, packed := range [][]byte{nil, {1}, {1, 2, 3, 4, 5}, make([]byte, 5), make([]byte, 6)} {
			w.unpackFails(packed, n, api.ErrArg)
		}
	}
	w.unpackFails(nil, 0, api.ErrEnd)
	w.unpackFails(nil, most, api.ErrEnd)
	if !w.unpack(make([]byte, 5), 0) {
		t.Error("nothing is refused")
	}
	var pieces []piece
	for range most / 273 {
		pieces = append(pieces, far(0, 273))
	}
	if rest := most % 273; rest > 0 {
		pieces = append(pieces, far(0, rest))
	}
	packed := w.m.clone().write(pieces...)
	w.unpackFails(packed, most-1, api.ErrForm)
	w.unpackFails(packed, most+1, api.ErrArg)
	if !w.unpack(packed, most) {
		t.Error("as much as may be is refused")
	}
	w.probe()
}

// begin tells twins with F 3, 5, 0 and 0, Z of a match, and a text of 14 bytes.
func begin(t *testing.T, window int) *twins {
	t.Helper()
	w := newTwins(t, window, props(1, 1, 2))
	w.copy(text("abcdefg"))
	w.puts(match(3, 5), match(4, 3))
	return w
}

// P14.4: what is wrong with the bytes as a decoder sees them: fewer than five, the first is not 0, they end too soon, something is left.
func TestUnpackDecodersErrors(t *testing.T) {
	pieces := []piece{single('x'), match(5, 2), far(1, 3), oneByte(), match(20, 9), single('y'), single('z')}
	n := sizeOf(pieces)
	packed := begin(t, 100).m.clone().write(pieces...)
	for size := range len(packed) {
		w := begin(t, 100)
		w.unpackFails(packed[:size], n, api.ErrEnd)
		w.probe()
	}
	for first := 1; first < 256; first += 50 {
		w := begin(t, 100)
		w.unpackFails(append([]byte{byte(first)}, packed[1:]...), n, api.ErrForm)
		w.unpackFails([]byte{byte(first), 0, 0, 0}, n, api.ErrEnd)
		w.unpackFails([]byte{byte(first), 0, 0, 0, 0}, 0, api.ErrForm)
		w.probe()
	}
	w := begin(t, 100)
	for _, more := range [][]byte{{0}, {1}, {0, 0, 0, 0, 0}, packed} {
		w.unpackFails(slices.Concat(packed, more), n, api.ErrForm)
	}
	for _, left := range [][]byte{{0, 0, 0, 0, 1}, {0, 1, 0, 0, 0}, {0, 255, 255, 255, 255}, {0, 0, 0, 0, 0, 0}} {
		w.unpackFails(left, 0, api.ErrForm)
	}
	last := slices.Clone(packed) // the last byte read makes the code another one
	last[len(last)-1] ^= 1
	w.unpackFails(last, n, api.ErrForm)
	if !w.unpack(packed, n) {
		t.Error("right bytes are refused behind wrong ones")
	}
	w.probe()
}

// P14.4: pieces that go beyond n, and n beyond the pieces.
func TestUnpackBeyondHowMany(t *testing.T) {
	for _, last := range []piece{match(2, 1), match(3, 1), match(9, 1), match(10, 1), match(273, 1), far(0, 2), far(1, 18), far(2, 273), far(3, 5)} {
		pieces := []piece{single('x'), last}
		n := sizeOf(pieces)
		w := begin(t, 100)
		packed := w.m.clone().write(pieces...)
		for less := 2; less < n; less++ {
			w.unpackFails(packed, less, api.ErrForm) // the piece goes beyond
		}
		w.unpackFails(packed, 1, api.ErrForm) // something is left
		w.unpackFails(packed, 0, api.ErrForm)
		w.unpack(slices.Clone(packed), n+1) // the bytes end, or something is read of what they end with
		if !w.unpack(packed, n) {
			t.Errorf("%v refused", pieces)
		}
		w.probe()
	}
}

// P14.4: pieces that go back beyond the text, at its edge, at the window's, and far beyond; f = 2^32 - 1.
func TestUnpackBackTooFar(t *testing.T) {
	for _, x := range []struct{ window, seen int }{{100, 14}, {14, 14}, {13, 13}, {6, 6}} { // the first two matches need six
		for _, f := range []int{0, 3, 4, 5, 6, 12, 13, 14, 15, 127, 128, 1 << 20, 1 << 28, 1<<31 - 1, 1 << 31, 3 << 30, 1<<32 - 3, 1<<32 - 2, 1<<32 - 1} {
			for _, n := range []int{2, 3, 4, 5, 273} {
				w := begin(t, x.window)
				packed := w.m.clone().write(match(n, f))
				switch {
				case f < x.seen:
					w.puts(match(n, f))
				case f == 1<<32-1:
					w.unpackFails(packed, n, api.ErrForm)
				default:
					w.unpackFails(packed, n, api.ErrBack)
				}
				if f >= x.seen { // what goes beyond both is ErrForm; where the bytes end first, ErrEnd
					w.unpackFails(packed, n-1, api.ErrForm)
					w.unpackFails(packed[:len(packed)-1], n, api.ErrEnd)
				}
				w.probe()
			}
		}
	}
}

// P14.4: far ones, and one byte of F0, where the text is shorter than F says, and where it has just as many.
func TestUnpackFarOnesTooFar(t *testing.T) {
	for j := range 4 {
		for _, n := range []int{1, 2, 273} {
			if n == 1 && j > 0 {
				continue
			}
			last := far(j, n)
			if n == 1 {
				last = oneByte()
			}
			w := newTwins(t, 100, props(0, 0, 1))
			w.copy(text("abcdefghijkl"))
			w.puts(match(2, 10), match(2, 10), match(2, 10), match(2, 10))
			w.forget()
			w.unpackFails(w.m.clone().write(last), n, api.ErrBack)
			w.copy(text("0123456789"))
			w.unpackFails(w.m.clone().write(last), n, api.ErrBack)
			if n > 1 {
				w.unpackFails(w.m.clone().write(last), n-1, api.ErrForm)
			}
			w.unpackFails(w.m.clone().write(single('a'), last, single('b')), n, api.ErrForm) // the byte came, and so it goes beyond n
			w.copy(text("x"))
			w.puts(last)
			w.probe()
		}
	}
	// In a new text without any byte, all pieces but a byte go back too far.
	for _, p := range []piece{match(2, 0), far(0, 2), far(1, 2), far(2, 2), far(3, 2), oneByte()} {
		w := newTwins(t, 1, props(0, 0, 0))
		w.unpackFails(w.m.clone().write(p), p.size(), api.ErrBack)
		w.probe()
		w = newTwins(t, 1, props(0, 0, 0))
		w.puts(single('a'), p, p)
		w.probe()
	}
}

// P14.4: of several errors the one that comes first in the bytes.
func TestUnpackFirstError(t *testing.T) {
	back, none, beyond := match(2, 500), match(2, 1<<32-1), match(50, 0)
	for _, x := range []struct {
		pieces []piece
		want   api.Errno
	}{
		{[]piece{single('a'), back, beyond, none}, api.ErrBack},
		{[]piece{single('a'), none, back, beyond}, api.ErrForm},
		{[]piece{single('a'), beyond, back, none}, api.ErrForm},
		{[]piece{single('a'), single('b'), match(50, 500)}, api.ErrForm}, // beyond n, and back beyond the text
		{[]piece{match(2, 0), back, single('a')}, api.ErrBack},
	} {
		w := begin(t, 100)
		packed := w.m.clone().write(x.pieces...)
		w.unpackFails(packed, 20, x.want)
		w.unpackFails(slices.Concat(packed, []byte{1, 2, 3}), 20, x.want)
		w.probe()
	}
}

// P14.4: every kind of piece with every length, in every order of three, with what they make of F and Z.
func TestUnpackEachPiece(t *testing.T) {
	kinds := []piece{single('q'), match(2, 1), match(4, 9), far(0, 2), far(1, 3), far(2, 2), far(3, 4), oneByte()}
	for _, a := range kinds {
		for _, b := range kinds {
			for _, c := range kinds {
				w := newTwins(t, 64, props(0, 1, 1))
				w.copy(text("0123456789abc"))
				w.puts(match(2, 2), match(2, 4), match(2, 6), match(2, 8))
				w.puts(a, b, c, single('r'), single('s'))
				w.puts(far(3, 2), far(3, 2), far(3, 2), far(3, 2))
			}
		}
	}
	for n := 2; n <= 273; n++ {
		w := newTwins(t, 400, props(0, 0, 4))
		w.copy(text("abcdefg"))
		w.puts(match(n, 6), single('h'), far(0, n), match(n, n), far(1, n), oneByte(), far(2, n), far(3, n))
		w.probe()
	}
}

// P14.4: every number f at the edges of slots is read as it was written: as long as the text has so many bytes, else as ErrBack.
func TestUnpackDistances(t *testing.T) {
	r := rand.New(rand.NewSource(1420))
	const size = 1 << 18
	w := newTwins(t, 1<<28, props(0, 0, 0))
	w.copy(randomText(r, size, 256))
	seen := used{}
	w.m.used = seen
	for f := range 300 {
		w.puts(match(2+f%5, f))
	}
	for e := 2; e < 32; e++ {
		for _, f := range []int{1 << e, 1<<e + 1<<(e-1), 1<<e + r.Intn(1<<e), 1<<e + r.Intn(1<<e), 2<<e - 1} {
			for n := 2; n < 7; n++ {
				if f < len(w.m.came) {
					w.puts(match(n, f))
				} else if f < 1<<32-1 {
					w.unpackFails(w.m.clone().write(match(n, f)), n, api.ErrBack)
				}
			}
		}
	}
	for s := 4; s <= 13; s++ {
		if u := seen[name{kind: "near", a: s, treeNode: 1}]; u == nil || u[0] == 0 || u[1] == 0 {
			t.Errorf("slot %d was not come to", s)
		}
	}
	w.probe()
}

// P14.4: bytes that no call made, and such that were changed: they are read as the words say, and behind an error all is as it was.
func TestUnpackAnyBytes(t *testing.T) {
	r := rand.New(rand.NewSource(1421))
	seen := map[api.Errno]int{}
	note := func(w *twins, packed []byte, n int) {
		_, e := w.m.clone().unpack(packed, n)
		seen[e]++
		w.unpack(slices.Clone(packed), n)
	}
	for i := range 1500 {
		all := allProps()
		w := newTwins(t, 1+r.Intn(1<<r.Intn(9)), all[r.Intn(len(all))])
		w.copy(randomText(r, r.Intn(40), 1+r.Intn(256)))
		for range 6 {
			b := randomText(r, 5+r.Intn(60), 256)
			b[0] = 0
			note(w, b, r.Intn(80))
		}
		pieces := randomPieces(r, w.m.clone(), 1+r.Intn(12))
		packed, n := w.m.clone().write(pieces...), sizeOf(pieces)
		for range 6 {
			b := slices.Clone(packed)
			for range 1 + r.Intn(3) {
				b[1+r.Intn(len(b)-1)] ^= 1 << r.Intn(8)
			}
			note(w, b, n)
		}
		note(w, packed[:r.Intn(len(packed))], n)
		if i%3 == 0 {
			w.pack(repeating(r, 30, 5))
		}
		w.probe()
	}
	for _, e := range []api.Errno{api.ErrEnd, api.ErrForm, api.ErrBack, api.OK} {
		if seen[e] == 0 {
			t.Errorf("no bytes had error %d: %v", int(e), seen)
		}
	}
}

// P14.4: all runs of a few bytes: read with any n.
func TestUnpackShortRunsOfBytes(t *testing.T) {
	for n := range 5 {
		for first := range 256 {
			for _, rest := range [][]byte{{0, 0, 0}, {0, 0, 1}, {255, 255, 255}, {0, 0, 0, 0}, {0, 0, 0, 0, 0}, {1, 2, 3, 4, 5, 6}} {
				w := newTwins(t, 3, props(0, 0, 0))
				w.copy(text("ab"))
				w.unpack(append([]byte{0, byte(first)}, rest...), n)
			}
		}
	}
}
