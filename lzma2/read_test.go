package lzma2_test

import (
	"bytes"
	"encoding/hex"
	"math/rand"
	"slices"
	"testing"

	"hamper/api"
	"hamper/lzma"
	"hamper/lzma2"
)

// row is chunks, with the end, and what they tell.
type row struct {
	chunks []byte
	text   string
	sizes  []int
}

func unhex(s string) []byte {
	b, err := hex.DecodeString(s)
	if err != nil {
		panic(err)
	}
	return b
}

// othersRows tells rows that liblzma made (the first two) or read (the third). Their kinds are e0 80 02 a0 80 c0; 01 c0 02 a0; e0 80 a0 02 80 c0 01 02 c0 80 e0 a0.
func othersRows() []row {
	return []row{
		{
			unhex("e00055004a5d00399a08ce76d98e26020c63d1c15c63f51cbfa24ed66f76e67d11ef1c0d6599ef0189b8a5d72ab6d673385e3e9589d5509f879c0138eb62bab74f2da751135dfdfbdc1a16f6326c31fe6480004e002600afd9fadf9da9be68c9858602739dc1fbd8fa9151dd248f04879cf6673f4fd4098475c945aeb00200046a57783921a00078001a00399bc005a97efc9480ba421971c8b3e7ddb58622a17f2d940000800050003400d35a21d1d625d547ca36eb550de876dfb914a1df6228651bbb14f564598102c96f649bb2e321c4c97e5d493415933ba5e4de6b00c000630019c800371bcaf11f01be139ea65b90f12d2a49223bb6f97d86c0000000"),
			"she sells sea shells by the sea shore; the shells she sells are sea shells, for sure. she sells sea shells, she sells sea shells, she sells sea shells by the shore. jWx9!so if she sells shells on the sea shore, then she sells shells on the sea shore, then she sells shells on the sea shore. then i'm sure she sells sea shore shells, sure she sells sea shore shells, sure. now by other props, by other props, by other props, by other props, by other props, by other props! ",
			[]int{86, 79, 5, 121, 81, 100},
		}, {
			unhex("0100046a57783921c0004b001b3f0031184a3f85fffc85dc279a85cc3668be2db3a88456f11200b380000200015a79a00063000b00b3a32908c648ecd03c000000"),
			"jWx9!banana bandana banana bandana banana bandana banana bandana banana bananas, Zybanana bandana banana bandana banana bandana banana bandana banana bananas, and bananas, and bananas",
			[]int{5, 76, 2, 100},
		}, {
			unhex("e00015000f5d0031184a2bfebca15904b236292adb00800016000600b1be86b25000a0000f000800a8433588000000000200036a57783980000b00070087f7bf12976000c0000b00073f00945463a81f4000010003736561200200067368656c6c7320c00014000ad000ae326b39194400000000800010000b00847fe4bbc7ed16ca07d000e0001400150000399b37be6851b9faf45c84e876fcb7419053850000a00009000500a040fc000000"),
			"banana bandana banana bandana banana bandana bandana bananas jWx9jWx9 banana banana jWx9 sea shells sea shells sea shore she sells shells she sells sea shells she sells ",
			[]int{22, 23, 16, 4, 12, 12, 4, 7, 21, 17, 21, 10},
		},
	}
}

// ownRows tells rows by the words, of every kind of chunks in one, and the end alone.
func ownRows() []row {
	rows := []row{{[]byte{0}, "", nil}}
	r := rand.New(rand.NewSource(1520))
	for range 6 {
		w := newWriter(1 << 20)
		for _, kind := range []byte{0x01, 0x02, 0xc0, 0x80, 0xa0, 0xe0, 0x02, 0x80, 0x01, 0xe0, 0xa0, 0xc0, 0x02} {
			w.put(kind, randomProps(r), repeating(r, 1+r.Intn(12), 1+r.Intn(256)))
		}
		rows = append(rows, row{w.ended(), string(w.text), w.sizes})
	}
	return rows
}

func randomProps(r *rand.Rand) lzma.Props {
	lp := r.Intn(5)
	return props(r.Intn(5-lp), lp, r.Intn(5))
}

// mayStand tells whether a kind may: as the first one, or behind others, of which some had props since the last 01 or not.
func mayStand(kind byte, first, learnt bool) bool {
	switch {
	case kind == 0x00 || kind == 0x01 || kind >= 0xe0:
		return true
	case kind == 0x02 || kind >= 0xc0:
		return !first
	case kind >= 0x80:
		return learnt
	}
	return false
}

// randomRow tells chunks of any kinds that may stand.
func randomRow(r *rand.Rand, window, count, size int) *writer {
	w := newWriter(window)
	learnt := false
	for len(w.sizes) < count {
		kind := []byte{0x01, 0x02, 0x02, 0x80, 0x80, 0xa0, 0xc0, 0xe0}[r.Intn(8)]
		if !mayStand(kind, len(w.sizes) == 0, learnt) {
			continue
		}
		learnt = kind >= 0xc0 || learnt && kind != 0x01
		b := repeating(r, 1+r.Intn(size), 1+r.Intn(256))
		if back := w.s.Text(); len(back) > 0 && r.Intn(2) == 0 {
			b = append(slices.Clone(back[r.Intn(len(back)):]), b...)
			b = b[:min(len(b), size)]
		}
		w.put(kind, randomProps(r), b)
	}
	return w
}

// head tells a packed chunk's kind, with the highest bits of n, and its numbers.
func head(kind byte, n, m int) []byte {
	n, m = n-1, m-1
	return []byte{kind + byte(n/65536), byte(n / 256), byte(n), byte(m / 256), byte(m)}
}

// P15.3, P15.4: rows that liblzma made, or read.
func TestReadOthersRows(t *testing.T) {
	for _, x := range othersRows() {
		for _, window := range []int{len(x.text), 1 << 16, 1 << 28} {
			readTells(t, x.chunks, window, len(x.text), []byte(x.text), len(x.chunks))
			readTells(t, x.chunks, window, api.MaxBytes, []byte(x.text), len(x.chunks))
		}
		sizesTells(t, x.chunks, x.sizes...)
	}
}

// P15.3, P15.4: chunks cut off at every byte.
func TestCutAtEachByte(t *testing.T) {
	for _, x := range append(othersRows(), ownRows()...) {
		for cut := range x.chunks {
			b := text(string(x.chunks[:cut]))
			readFails(t, b, 1<<20, api.MaxBytes, api.ErrEnd)
			sizesFails(t, b, api.ErrEnd)
		}
		readTells(t, x.chunks, 1<<20, api.MaxBytes, []byte(x.text), len(x.chunks))
	}
}

// P15.3, P15.4: used is how many bytes were read, whatever stands behind the end; Sizes suffers nothing there.
func TestBehindTheEnd(t *testing.T) {
	for _, x := range append(othersRows(), ownRows()...) {
		for _, tail := range []string{"\x00", "\x00\x00", "\x01", "\x02", "\x03", "\x80", "\xe0", "\xff", "\x01\x00\x00a\x00", string(x.chunks)} {
			b := append(slices.Clone(x.chunks), tail...)
			readTells(t, b, 1<<20, len(x.text), []byte(x.text), len(x.chunks))
			sizesFails(t, b, api.ErrTail)
		}
	}
}

// place is the kinds of the chunks that stand ahead of one.
type place struct {
	ahead  []byte
	learnt bool // props came since the last 01
}

// places tells those at which kinds are tried: as the first chunk, behind 01, behind 02, and so behind props.
func places() []place {
	return []place{
		{nil, false},
		{[]byte{0x01}, false},
		{[]byte{0x01, 0x02}, false},
		{[]byte{0xe0}, true},
		{[]byte{0xe0, 0x80}, true},
		{[]byte{0xe0, 0x02}, true},
		{[]byte{0xe0, 0x01}, false},
		{[]byte{0xe0, 0x01, 0x02}, false},
		{[]byte{0x01, 0xc0}, true},
		{[]byte{0x01, 0xc0, 0x02}, true},
		{[]byte{0x01, 0xe0, 0x02, 0xa0}, true},
		{[]byte{0x01, 0x02, 0xc0, 0xe0, 0x01, 0x01, 0x02}, false},
		{[]byte{0xe0, 0x01, 0x02, 0xc0, 0x02, 0xa0, 0x02}, true},
	}
}

// writer tells one that wrote the chunks of a place.
func (x place) writer() *writer {
	w := newWriter(1 << 20)
	for _, kind := range x.ahead {
		w.put(kind, props(3, 0, 2), []byte("banana"))
	}
	return w
}

// P15.3, P15.4: every kind at every place: where it may not stand it is ErrForm, whatever is behind it or lacks.
func TestKindsThatMayNotStand(t *testing.T) {
	for _, x := range places() {
		w := x.writer()
		for kind := range 256 {
			if mayStand(byte(kind), len(x.ahead) == 0, x.learnt) {
				continue
			}
			for _, rest := range []string{"", "\x00", "\x00\x00", "\x00\x00a\x00", "\x00\x00\x00\x05\x00\x00\x00\x00\x00\x00\x00", "\xff\xff\xff\xff\xff"} {
				b := append(append(slices.Clone(w.out), byte(kind)), rest...)
				readFails(t, b, 1<<20, len(w.text), api.ErrForm)
				readFails(t, b, 1<<20, api.MaxBytes, api.ErrForm)
				sizesFails(t, b, api.ErrForm)
			}
		}
	}
}

// P15.3, P15.4: every kind at every place where it may stand: the kind alone, and a whole chunk. A packed one has as many bytes as its kind tells.
func TestKindsThatMayStand(t *testing.T) {
	for _, x := range places() {
		ahead := x.writer()
		for kind := range 256 {
			if !mayStand(byte(kind), len(x.ahead) == 0, x.learnt) {
				continue
			}
			b := append(slices.Clone(ahead.out), byte(kind))
			if kind == 0 {
				readTells(t, b, 1<<20, len(ahead.text), ahead.text, len(b))
				sizesTells(t, b, ahead.sizes...)
				continue
			}
			readFails(t, b, 1<<20, api.MaxBytes, api.ErrEnd)
			sizesFails(t, b, api.ErrEnd)
			size := 9
			if kind >= 0x80 {
				size += kind % 32 * 65536
			}
			if size > 1<<20 {
				continue // no state packs so many
			}
			w := x.writer()
			if kind >= 0x80 {
				w.put(byte(kind)-byte(kind)%32, props(2, 1, 0), bytes.Repeat([]byte("an"), size)[:size])
			} else {
				w.put(byte(kind), lzma.Props{}, bytes.Repeat([]byte("an"), size)[:size])
			}
			if w.out[len(ahead.out)] != byte(kind) {
				t.Fatalf("a chunk of the kind %x, want %x", w.out[len(ahead.out)], kind)
			}
			readTells(t, w.ended(), 1<<20, len(w.text), w.text, len(w.out)+1)
			readFails(t, w.ended(), 1<<20, len(w.text)-1, api.ErrBig)
			sizesTells(t, w.ended(), w.sizes...)
		}
	}
}

// P15.3, P15.4: packed chunks of more bytes than a state unpacks, up to 2^21: their sizes are told, and where they are read, Unpack's error.
func TestMoreThanUnpackTells(t *testing.T) {
	for _, kind := range []byte{0x80, 0xa0, 0xc0, 0xe0} {
		for _, n := range []int{1<<20 + 1, 1<<20 + 65536, 1<<21 - 65536, 1<<21 - 1, 1 << 21} {
			w := newWriter(1 << 20)
			w.put(0xe0, props(0, 0, 0), []byte("banana"))
			b := append(w.out, head(kind, n, 6)...)
			if kind >= 0xc0 {
				b = append(b, 93)
			}
			b = append(b, 0, 0, 0, 0, 0, 0)
			readFails(t, b, 1<<20, 6+n, api.ErrArg)
			readFails(t, b, 1<<20, api.MaxBytes, api.ErrArg)
			readFails(t, b, 1<<20, 6+n-1, api.ErrBig)
			readFails(t, b[:len(b)-1], 1<<20, 6+n, api.ErrEnd)
			sizesTells(t, append(b, 0), 6, n)
			sizesFails(t, b, api.ErrEnd)
			sizesFails(t, b[:len(b)-1], api.ErrEnd)
		}
	}
}

// P15.3, P15.4: n of 1, of 65536 and about it, and of as many as are unpacked, of each kind.
func TestSizesAtTheEdges(t *testing.T) {
	r := rand.New(rand.NewSource(1521))
	for _, kind := range []byte{0x01, 0x02, 0x80, 0xa0, 0xc0, 0xe0} {
		for _, n := range []int{1, 2, 255, 256, 257, 65535, 65536, 65537, 131072, 1<<20 - 1, 1 << 20} {
			if kind < 0x80 && n > 65536 {
				continue
			}
			w := newWriter(1 << 23)
			w.put(0xe0, props(1, 1, 1), []byte("bananas"))
			b := bytes.Repeat(randomText(r, 7, 256), n/7+1)[:n]
			w.put(kind, props(0, 3, 2), b)
			w.put(0x02, lzma.Props{}, []byte("z"))
			readTells(t, w.ended(), 1<<23, n+8, w.text, len(w.out)+1)
			readFails(t, w.ended(), 1<<23, n+7, api.ErrBig)
			sizesTells(t, w.ended(), 7, n, 1)
		}
	}
}

// P15.3: m of 1, of which nothing is unpacked, whatever the byte is.
func TestOnePackedByte(t *testing.T) {
	for c := range 256 {
		b := append(head(0xe0, 1, 1), 93, byte(c), 0)
		readFails(t, b, 9, 9, api.ErrEnd)
		sizesTells(t, b, 1)
	}
}

// packsTo seeks bytes that a new state with such props packs to just so many.
func packsTo(t *testing.T, r *rand.Rand, p lzma.Props, size int) []byte {
	t.Helper()
	for range 100 {
		b := randomText(r, size, 256)
		packed := func(n int) int {
			s, _ := lzma.New(1 << 20)
			s.Reset(p)
			l, _ := s.Pack(b[:n])
			return len(l)
		}
		least, most := 0, size
		for least < most {
			if n := (least + most) / 2; packed(n) < size {
				least = n + 1
			} else {
				most = n
			}
		}
		if packed(least) == size {
			return b[:least]
		}
	}
	t.Fatalf("no bytes that pack to %d", size)
	return nil
}

// P15.3, P15.4: m of 65536, and about it.
func TestMostPackedBytes(t *testing.T) {
	r := rand.New(rand.NewSource(1522))
	for _, size := range []int{255, 256, 257, 65535, 65536} {
		b := packsTo(t, r, props(3, 0, 2), size)
		w := newWriter(1 << 20)
		w.put(0xe0, props(3, 0, 2), b)
		if len(w.out) != size+6 {
			t.Fatalf("%d bytes, want %d", len(w.out), size+6)
		}
		readTells(t, w.ended(), 1<<20, len(b), b, size+7)
		readFails(t, w.out, 1<<20, len(b), api.ErrEnd)
		readFails(t, w.out[:size+5], 1<<20, len(b), api.ErrEnd)
		sizesTells(t, w.ended(), len(b))
		sizesFails(t, w.out[:size+5], api.ErrEnd)
	}
}

// P15.3: n that is just most less what came out, and one more, at each chunk.
func TestMostAtTheEdges(t *testing.T) {
	for _, x := range append(othersRows(), ownRows()...) {
		for most := range len(x.text) {
			readFails(t, x.chunks, 1<<20, most, api.ErrBig)
		}
		for _, most := range []int{len(x.text), len(x.text) + 1, api.MaxBytes} {
			readTells(t, x.chunks, 1<<20, most, []byte(x.text), len(x.chunks))
		}
	}
}

// P15.3, P15.4: each byte of props, in chunks that bring some.
func TestEachPropsByte(t *testing.T) {
	for c := range 256 {
		p, e := lzma.Of(byte(c))
		for _, kind := range []byte{0xc0, 0xe0} {
			for _, fresh := range []byte{0x01, 0xe0} {
				w := newWriter(1 << 20)
				w.put(fresh, props(0, 0, 0), []byte("banana"))
				b := slices.Clone(w.out)
				if e == api.OK {
					w.put(kind, p, []byte("banana bandana"))
					readTells(t, w.ended(), 1<<20, 20, []byte("bananabanana bandana"), len(w.out)+1)
					sizesTells(t, w.ended(), 6, 14)
					continue
				}
				b = append(append(b, head(kind, 14, 6)...), byte(c))
				for _, rest := range []string{"", "\x00", "\x00\x00\x00\x00\x00\x00", "\x01\x00\x00\x00\x00\x00\x00"} {
					whole := append(slices.Clone(b), rest...)
					readFails(t, whole, 1<<20, 20, api.ErrForm)
					readFails(t, whole, 1<<20, 19, api.ErrBig)
					sizesFails(t, whole, api.ErrForm)
				}
			}
		}
	}
}

// P15.3, P15.4: which error is told, where two would fit. Of Sizes 0 is none.
func TestOrderOfErrors(t *testing.T) {
	const one = "\x01\x00\x00a"
	const learnt = "\xe0\x00\x00\x00\x05\x00\x00\x00\x00\x00\x00\x00" // a byte 0
	for _, x := range []struct {
		what       string
		chunks     string
		most       int
		read, size api.Errno
	}{
		{"nothing", "", 0, api.ErrEnd, api.ErrEnd},
		{"no kind, no numbers", "\x03", 0, api.ErrForm, api.ErrForm},
		{"no kind, and too many", "\x7f\xff\xff", 0, api.ErrForm, api.ErrForm},
		{"not the first one, no numbers", "\x02", 0, api.ErrForm, api.ErrForm},
		{"not the first one, and too many", "\x02\xff\xff", 0, api.ErrForm, api.ErrForm},
		{"not the first one, no props", "\x80", 0, api.ErrForm, api.ErrForm},
		{"not the first one, though it has props", "\xc0\x00\x00\x00\x05\x5d\x00\x00\x00\x00\x00\x00", 9, api.ErrForm, api.ErrForm},
		{"no props, no numbers", one + "\xbf", 9, api.ErrForm, api.ErrForm},
		{"no props, and too many", one + "\x9f\xff\xff\xff\xff", 1, api.ErrForm, api.ErrForm},
		{"props ahead of the last 01", learnt + one + "\xa0", 9, api.ErrForm, api.ErrForm},
		{"no number, and too many", "\x01\xff", 0, api.ErrEnd, api.ErrEnd},
		{"no m, and too many", "\xe0\xff\xff", 0, api.ErrEnd, api.ErrEnd},
		{"half of m, and too many", "\xff\xff\xff\xff", 0, api.ErrEnd, api.ErrEnd},
		{"too many, and no bytes", "\x01\xff\xff", 65535, api.ErrBig, api.ErrEnd},
		{"too many, and no byte of props", "\xe0\x00\x00\x00\x05", 0, api.ErrBig, api.ErrEnd},
		{"too many, and props that none have", "\xe0\x00\x00\x00\x05\xe1", 0, api.ErrBig, api.ErrForm},
		{"too many, and packed ones that end too soon", "\xe0\x00\x00\x00\x05\x5d\x00", 0, api.ErrBig, api.ErrEnd},
		{"too many, and wrong packed ones", "\xe0\x00\x00\x00\x04\x5d\x01\x00\x00\x00\x00\x00", 0, api.ErrBig, api.OK},
		{"no byte of props, which none would have", "\xe0\x00\x00\x00\x05", 9, api.ErrEnd, api.ErrEnd},
		{"props that none have, and no bytes", "\xe0\x00\x00\x00\x05\xe1", 9, api.ErrForm, api.ErrForm},
		{"props that none have, and fewer bytes", "\xe0\x00\x00\x00\x05\xff\x00", 9, api.ErrForm, api.ErrForm},
		{"fewer bytes, and wrong ones", "\xe0\x00\x00\x00\x05\x5d\x01\x00\x00\x00\x00", 9, api.ErrEnd, api.ErrEnd},
		{"fewer bytes, and more than are unpacked", "\xff\xff\xff\x00\x05\x5d\x00\x00\x00\x00\x00", api.MaxBytes, api.ErrEnd, api.ErrEnd},
		{"more than are unpacked, and wrong ones", "\xff\xff\xff\x00\x04\x5d\x01\x00\x00\x00\x00\x00", api.MaxBytes, api.ErrArg, api.OK},
		{"wrong packed ones, and no end", "\xe0\x00\x00\x00\x04\x5d\x01\x00\x00\x00\x00", 9, api.ErrForm, api.ErrEnd},
		{"wrong packed ones, and then no kind", "\xe0\x00\x00\x00\x04\x5d\x01\x00\x00\x00\x00\x03", 9, api.ErrForm, api.ErrForm},
		{"packed ones that lack, and then no kind", "\xe0\x00\x00\x00\x03\x5d\x00\x00\x00\x00\x03", 9, api.ErrEnd, api.ErrForm},
		{"too many in the second one, and then no kind", one + one + "\x03", 1, api.ErrBig, api.ErrForm},
		{"too many in the second one, and no end", one + one, 1, api.ErrBig, api.ErrEnd},
		{"no end, and no more may come", one, 1, api.ErrEnd, api.ErrEnd},
		{"no kind, and no more may come", one + "\x03", 1, api.ErrForm, api.ErrForm},
		{"no kind, and a byte behind an end", one + "\x03\x00\x00", 9, api.ErrForm, api.ErrForm},
		{"wrong packed ones, and a byte behind the end", "\xe0\x00\x00\x00\x04\x5d\x01\x00\x00\x00\x00\x00\x00", 9, api.ErrForm, api.ErrTail},
		{"no kind, but behind the end", one + "\x00\x03", 1, api.OK, api.ErrTail},
	} {
		if _, _, e := lzma2.Read([]byte(x.chunks), 9, x.most); e != x.read {
			t.Errorf("%s: Read(% x, 9, %d): error %d, want %d", x.what, x.chunks, x.most, int(e), int(x.read))
		}
		if _, e := lzma2.Sizes([]byte(x.chunks)); e != x.size {
			t.Errorf("%s: Sizes(% x): error %d, want %d", x.what, x.chunks, int(e), int(x.size))
		}
		if x.read != api.OK {
			readFails(t, []byte(x.chunks), 9, x.most, x.read)
		}
		if x.size != api.OK {
			sizesFails(t, []byte(x.chunks), x.size)
		}
	}
}

// P15.3: Unpack's errors: packed bytes that do not begin with 0, that are too few or too many, and a piece that goes beyond n or back beyond the text.
func TestUnpackErrors(t *testing.T) {
	s, _ := lzma.New(1 << 20)
	s.Reset(props(3, 0, 2))
	packed, _ := s.Pack([]byte("banana banana banana"))
	whole := func(n int, body []byte) []byte {
		return append(append(append(head(0xe0, n, len(body)), 93), body...), 0)
	}
	readTells(t, whole(20, packed), 99, 99, []byte("banana banana banana"), len(packed)+7)
	wrong := slices.Clone(packed)
	wrong[0] = 1
	readFails(t, whole(20, wrong), 99, 99, api.ErrForm)
	readFails(t, whole(20, packed[:4]), 99, 99, api.ErrEnd)
	readFails(t, whole(20, packed[:6]), 99, 99, api.ErrEnd)
	readFails(t, whole(20, append(slices.Clone(packed), 0)), 99, 99, api.ErrForm)
	readFails(t, whole(15, packed), 99, 99, api.ErrForm)
	readFails(t, whole(20, packed), 6, 99, api.ErrBack)
	readTells(t, whole(20, packed), 7, 99, []byte("banana banana banana"), len(packed)+7)
}

// chunk tells the kind, the props and the bytes of a chunk to be written.
type chunk struct {
	kind byte
	p    lzma.Props
	b    string
}

func written(l ...chunk) []byte {
	w := newWriter(1 << 20)
	for _, c := range l {
		w.put(c.kind, c.p, []byte(c.b))
	}
	return w.out
}

// P15.3: the text stays behind 02 and by packed ones of other kinds; by 01 and from e0 on it is forgotten first.
func TestForgotten(t *testing.T) {
	const ahead = "a piece that is found again"
	p := props(3, 0, 2)
	begin := written(chunk{0x01, p, ahead}, chunk{0xc0, p, "?!"})
	for _, kind := range []byte{0x80, 0xa0, 0xc0} {
		row := append(written(chunk{0x01, p, ahead}, chunk{0xc0, p, "?!"}, chunk{kind, p, ahead}), 0)
		readTells(t, row, 99, 99, []byte(ahead+"?!"+ahead), len(row))
	}
	again := written(chunk{0x01, p, ahead}, chunk{0xc0, p, "?!"}, chunk{0xc0, p, ahead})[len(begin):]
	row := slices.Concat(begin, []byte("\x02\x00\x00!"), again, []byte{0})
	readTells(t, row, 99, 99, []byte(ahead+"?!!"+(ahead + "?!!")[1:len(ahead)+1]), len(row))
	row = slices.Concat(begin, []byte("\x01\x00\x00!"), again, []byte{0})
	readFails(t, row, 99, 99, api.ErrBack)
	again[0] = 0xe0
	row = slices.Concat(begin, again, []byte{0})
	readFails(t, row, 99, 99, api.ErrBack)
}

// P15.3: what was learnt goes on by 80, behind bytes that are not packed, too; it is new by a0 with the props that were, by c0 and e0 with others.
func TestLearnt(t *testing.T) {
	p, q := props(3, 0, 2), props(1, 2, 3)
	const first, second = "all that is learnt of this is seen by the next one, all of this", "and by the next one of this, it is seen"
	for _, between := range []string{"", "as it is"} {
		for _, kind := range []byte{0x80, 0xa0, 0xc0, 0xe0} {
			s, _ := lzma.New(1 << 20)
			s.Reset(p)
			s.Pack([]byte(first))
			s.Copy([]byte(between))
			switch kind {
			case 0xa0:
				s.Restart()
			case 0xc0:
				s.Reset(q)
			case 0xe0:
				s.Forget()
				s.Reset(q)
			}
			packed, _ := s.Pack([]byte(second))
			b := written(chunk{0xe0, p, first})
			if between != "" {
				b = append(b, copiedChunk(0x02, []byte(between))...)
			}
			b = append(b, head(kind, len(second), len(packed))...)
			if kind >= 0xc0 {
				b = append(b, 154) // (3 · 5 + 2) · 9 + 1
			}
			b = append(append(b, packed...), 0)
			readTells(t, b, 1<<20, 999, []byte(first+between+second), len(b))
		}
	}
}

// P15.3, P15.4: chunks of every kind in one row, read by windows that are long enough and such that are not; and the rows cut, made longer, and with bytes that are others.
func TestManyRows(t *testing.T) {
	r := rand.New(rand.NewSource(1523))
	told := map[api.Errno]int{}
	for range 800 {
		window := 1 + r.Intn(1<<(1+r.Intn(10)))
		w := randomRow(r, window, 1+r.Intn(14), 1+r.Intn(120))
		readTells(t, w.ended(), window, len(w.text), w.text, len(w.out)+1)
		sizesTells(t, w.ended(), w.sizes...)
		for range 6 {
			b := changed(r, w.ended())
			most := len(w.text) + r.Intn(5) - 1
			if r.Intn(3) > 0 {
				most = api.MaxBytes
			}
			_, _, e := reads(t, b, max(1, window+r.Intn(3)-1), max(0, most))
			told[e]++
			sizes(t, b)
		}
	}
	for _, e := range []api.Errno{api.OK, api.ErrArg, api.ErrBig, api.ErrEnd, api.ErrForm, api.ErrBack} {
		if told[e] < 10 {
			t.Errorf("error %d was told %d times", int(e), told[e])
		}
	}
}

// changed tells chunks with something that is likely wrong.
func changed(r *rand.Rand, b []byte) []byte {
	at := r.Intn(len(b))
	switch r.Intn(7) {
	case 0:
		b = b[:at]
	case 1:
		b[at] = byte(r.Intn(256))
	case 2:
		b[at] ^= 1 << r.Intn(8)
	case 3:
		b = slices.Insert(b, at, byte(r.Intn(256)))
	case 4:
		b = slices.Delete(b, at, at+1)
	case 5:
		b[0] ^= 1 << r.Intn(8)
	default:
		b = append(b, randomText(r, 1+r.Intn(5), 256)...)
	}
	return text(string(b))
}

// P15.3, P15.4: every row of a few bytes that matter.
func TestEachShortRow(t *testing.T) {
	letters := []byte{0x00, 0x01, 0x02, 0x03, 0x05, 0x5d, 0x7f, 0x80, 0x9f, 0xa0, 0xbf, 0xc0, 0xdf, 0xe0, 0xe1, 0xff}
	last := [][]byte{nil}
	for range 4 {
		var longer [][]byte
		for _, b := range last {
			for _, c := range letters {
				longer = append(longer, append(slices.Clone(b), c))
			}
		}
		for _, b := range longer {
			reads(t, b, 9, 2)
			sizes(t, b)
		}
		last = longer
	}
}

// P15.3, P15.4: bytes that no call made, behind a first kind that may be.
func TestAnyBytes(t *testing.T) {
	r := rand.New(rand.NewSource(1524))
	kinds := []byte{0x00, 0x01, 0x02, 0x80, 0xa0, 0xc0, 0xe0}
	for range 30000 {
		b := text(string(randomText(r, 1+r.Intn(40), 1+r.Intn(256))))
		for i := range b {
			if r.Intn(2) == 0 {
				b[i] = kinds[r.Intn(len(kinds))]
			} else if r.Intn(2) == 0 {
				b[i] %= 4
			}
		}
		b[0] = kinds[r.Intn(2)*5+1]
		reads(t, b, 1+r.Intn(20), r.Intn(1<<r.Intn(12)))
		sizes(t, b)
	}
}

// P15.5: Read of Make is the text, of any window from 2^23 on, and of any from its length on; Sizes tells the blocks.
func TestRoundTrip(t *testing.T) {
	r := rand.New(rand.NewSource(1525))
	for range 1000 {
		b := repeating(r, r.Intn(1<<r.Intn(13)), 1+r.Intn(256))
		block := []int{1 + r.Intn(len(b)+1), 1 + r.Intn(40), 1 + r.Intn(65536), max(1, len(b)), 65536}[r.Intn(5)]
		chunks, e := lzma2.Make(b, block)
		if e != api.OK {
			t.Fatalf("Make(%.60q (%d), %d): error %d", b, len(b), block, int(e))
		}
		least := max(1, len(b))
		for _, window := range []int{least, least + 1, least + r.Intn(1<<23), 1 << 23, 1<<23 + r.Intn(1<<27), 1 << 28} {
			readTells(t, chunks, window, len(b)+r.Intn(2), b, len(chunks))
		}
		var want []int
		for size := len(b); size > 0; size -= block {
			want = append(want, min(size, block))
		}
		sizesTells(t, chunks, want...)
		reads(t, chunks, 1+r.Intn(least), len(b))
	}
}

// P15.5: longer texts, in whose chunks pieces of earlier ones come again.
func TestRoundTripOfLongTexts(t *testing.T) {
	r := rand.New(rand.NewSource(1526))
	for _, letters := range []int{1, 2, 20, 256} {
		for _, block := range []int{20000, 65536} {
			b := repeating(r, 132000+r.Intn(9000), letters)
			chunks := makes(t, b, block)
			for _, window := range []int{len(b), 1 << 23} {
				readTells(t, chunks, window, len(b), b, len(chunks))
			}
			reads(t, chunks, len(b)/3, len(b))
		}
	}
}
