package lzma2_test

import (
	"bytes"
	"encoding/hex"
	"math/rand"
	"slices"
	"testing"

	"hamper/api"
	"hamper/lzma"
	"hamper/lzma2"
)

// made packs a piece as Make does, behind texts of chunks ahead of it, and tells how many bytes more that has.
func made(piece []byte, ahead ...[]byte) (packed []byte, more int) {
	s, _ := lzma.New(1 << 23)
	for _, b := range ahead {
		s.Copy(b)
	}
	s.Reset(props(3, 0, 2))
	packed, _ = s.Pack(piece)
	return packed, len(packed) - len(piece)
}

// like seeks a piece of so many bytes that packs to so many more behind texts of chunks ahead of it: the more of it are any bytes, the longer it is packed.
func like(t *testing.T, r *rand.Rand, size, more int, ahead ...[]byte) []byte {
	t.Helper()
	for range 100 {
		piece := make([]byte, size)
		for at := range size + 1 {
			if _, have := made(piece, ahead...); have == more {
				return piece
			}
			if at < size {
				piece[at] = byte(r.Intn(256))
			}
		}
	}
	t.Fatalf("no piece of %d bytes that packs to %d more", size, more)
	return nil
}

// copiedChunk tells a chunk of bytes as they are.
func copiedChunk(kind byte, b []byte) []byte {
	return append([]byte{kind, byte((len(b) - 1) / 256), byte(len(b) - 1)}, b...)
}

// packedChunk tells a chunk of n bytes, with the props that Make takes.
func packedChunk(kind byte, n int, packed []byte) []byte {
	n--
	m := len(packed) - 1
	return append([]byte{kind, byte(n / 256), byte(n), byte(m / 256), byte(m), 93}, packed...)
}

// kindsOf tells the kinds of chunks that were made, with the end's.
func kindsOf(b []byte) []byte {
	kinds := []byte{b[0]}
	for b[0] != 0 {
		if b[0] < 0x80 {
			b = b[3+int(b[1])*256+int(b[2])+1:]
		} else {
			b = b[6+int(b[3])*256+int(b[4])+1:]
		}
		kinds = append(kinds, b[0])
	}
	return kinds
}

// P15.2: chunks that pack to as many bytes as they have, to one fewer and to one more, as the only one, the first one, a later one, the last one that is shorter.
func TestJustShorter(t *testing.T) {
	r := rand.New(rand.NewSource(1510))
	for _, size := range []int{12, 20, 33, 100, 300} {
		for _, more := range []int{-2, -1, 0, 1, 2} {
			for _, laterMore := range []int{-1, 0, 1} {
				first := like(t, r, size, more)
				second := like(t, r, size, laterMore, first)
				last := like(t, r, size-1, -laterMore, first, second)
				var want []byte
				if packed, _ := made(first); more < 0 {
					want = append(want, packedChunk(0xe0, size, packed)...)
				} else {
					want = append(want, copiedChunk(0x01, first)...)
				}
				wantOne := append(slices.Clone(want), 0)
				if packed, _ := made(second, first); laterMore < 0 {
					want = append(want, packedChunk(0xc0, size, packed)...)
				} else {
					want = append(want, copiedChunk(0x02, second)...)
				}
				if packed, _ := made(last, first, second); -laterMore < 0 {
					want = append(want, packedChunk(0xc0, size-1, packed)...)
				} else {
					want = append(want, copiedChunk(0x02, last)...)
				}
				want = append(want, 0)
				if have := makes(t, first, size); !bytes.Equal(have, wantOne) {
					t.Fatalf("%q alone: % x, want % x", first, have, wantOne)
				}
				if have := makes(t, slices.Concat(first, second, last), size); !bytes.Equal(have, want) {
					t.Fatalf("%q, %q, %q: % x, want % x", first, second, last, have, want)
				}
			}
		}
	}
}

// P15.2: a text that is a whole number of blocks, one byte less and one more.
func TestWholeBlocks(t *testing.T) {
	r := rand.New(rand.NewSource(1511))
	for _, block := range []int{1, 2, 3, 5, 6, 7, 8, 10, 64, 255, 256, 257, 1000} {
		for count := range 5 {
			for _, over := range []int{-1, 0, 1} {
				size := max(0, count*block+over)
				b := repeating(r, size, 3)
				have := makes(t, b, block)
				var want []int
				for ; size > 0; size -= block {
					want = append(want, min(size, block))
				}
				sizesTells(t, have, want...)
				reads(t, have, 1<<23, len(b))
			}
		}
	}
}

// P15.2: as great blocks as may be: of bytes that do not pack, and of such that do.
func TestGreatBlocks(t *testing.T) {
	r := rand.New(rand.NewSource(1512))
	for _, block := range []int{65535, 65536} {
		for _, over := range []int{-1, 0, 1} {
			b := randomText(r, 2*block+over, 256)
			have := makes(t, b, block)
			want := []byte{1, 2, 2, 0}
			if over <= 0 {
				want = []byte{1, 2, 0}
			}
			if kinds := kindsOf(have); !bytes.Equal(kinds, want) {
				t.Errorf("%d bytes in blocks of %d: the kinds are % x, want % x", len(b), block, kinds, want)
			}
			reads(t, have, 1<<23, len(b))
			b = append(bytes.Repeat([]byte{7}, block), repeating(r, block+over, 200)...)
			have = makes(t, b, block)
			if kinds := kindsOf(have); !bytes.HasPrefix(kinds, []byte{0xe0, 0xc0}) {
				t.Errorf("%d bytes in blocks of %d: the kinds are % x", len(b), block, kinds)
			}
			reads(t, have, 1<<23, len(b))
		}
	}
}

const shells = "she sells sea shells by the sea shore; the shells she sells are sea shells, for sure. so if she sells shells on the sea shore, then i'm sure she sells sea shore shells."

// P15.2: chunks that liblzma was asked to read, too, and of which it told these texts.
func TestMadeAsOthersReadIt(t *testing.T) {
	const banana = "banana bandana banana bandanas, banana!"
	for _, x := range []struct {
		text  string
		block int
		want  string
	}{
		{shells, 65536, "e000a700545d00399a08ce76d98e23af9fb939d25cc7e7c5d96441f0b291c9d0c6bbd5d21f7155478292cef03da430c69c897f82abaa4f0987220ec6d9678b8d2d9654bce0afd31ef85b9bf008a8320cc1b8b565f20e6bbd5d6d4100"},
		{shells, 60, "e0003b00275d00399a08ce76d98e23af9fb939d25cc7e7c5d96441f0b291c9d0c6bbd5d21f7155478292cc8cda00c0003b00215d0030c048a34a22abe597b67478f12893cec3d05e764d43b8537b049a2dec8e73f300c0002f00175d008ccebc5d44464f9cfdc1ac4eebc4a5a13ff08b097d400000"},
		{banana, 30, "e0001d00115d0031184a2bfebca15904b22c312d95b72b000200082c2062616e616e612100"},
		{banana, 39, "e0002600155d0031184a2bfebca15904b22c312d998719bf67d2000000"},
		{string(make([]byte, 40)), 20, "e0001300065d00006e0047f800c0001300055d00dc07fc000000"},
	} {
		b, e := lzma2.Make([]byte(x.text), x.block)
		if have := hex.EncodeToString(b); e != api.OK || have != x.want {
			t.Errorf("Make(%.20q, %d) = %s, error %d", x.text, x.block, have, int(e))
		}
		readTells(t, b, 1<<23, len(x.text), []byte(x.text), len(b))
	}
}

// P15.2: every short text in blocks of each size.
func TestMakeEachShortText(t *testing.T) {
	texts := [][]byte{nil}
	for i := 0; i < len(texts) && len(texts[i]) < 6; i++ {
		for _, c := range []byte{0, 255} {
			texts = append(texts, append(slices.Clone(texts[i]), c))
		}
	}
	for _, b := range texts {
		for block := 1; block <= 7; block++ {
			reads(t, makes(t, b, block), max(1, len(b)), len(b))
		}
	}
}

// P15.2: runs of like bytes, whose first chunk is soon shorter, in blocks about those that are never packed.
func TestMakeRuns(t *testing.T) {
	for _, c := range []byte{0, 'a', 255} {
		for n := range 60 {
			b := bytes.Repeat([]byte{c}, n)
			for block := 1; block <= 24; block++ {
				makes(t, b, block)
			}
		}
	}
}

// P15.2: many texts and blocks.
func TestMakeManyTexts(t *testing.T) {
	r := rand.New(rand.NewSource(1513))
	kinds := map[byte]int{}
	for range 1500 {
		b := repeating(r, r.Intn(1<<r.Intn(13)), 1+r.Intn(256))
		for _, kind := range kindsOf(makes(t, b, 1+r.Intn(2*len(b)+2))) {
			kinds[kind]++
		}
	}
	for _, kind := range []byte{0, 1, 2, 0xc0, 0xe0} {
		if kinds[kind] < 100 {
			t.Errorf("chunks of the kind %x came %d times", kind, kinds[kind])
		}
	}
	if len(kinds) != 5 {
		t.Errorf("kinds: %v", kinds)
	}
}

// farText tells a text whose last piece stood just so far back, with noughts between.
func farText(r *rand.Rand, distance int) []byte {
	piece := randomText(r, 60, 256)
	b := make([]byte, distance+len(piece))
	copy(b, piece)
	copy(b[distance:], piece)
	return b
}

// P15.2, P15.5: Make looks back 2^23 bytes, and no further; a Read that looks back less does not find what lies there.
func TestMadeWindow(t *testing.T) {
	const window = 1 << 23
	for over, wantKind := range map[int]byte{-1: 0xc0, 0: 0xc0, 1: 0x02} {
		b := farText(rand.New(rand.NewSource(1514)), window+over)
		have := makes(t, b, 65536)
		if kinds := kindsOf(have); kinds[len(kinds)-2] != wantKind {
			t.Errorf("a piece %d back: the last chunk is of the kind %x", window+over, kinds[len(kinds)-2])
		}
		for _, w := range []int{window, window + 1, len(b), 1 << 28} {
			readTells(t, have, w, len(b), b, len(have))
		}
		if over <= 0 {
			readTells(t, have, window+over, len(b), b, len(have))
			readFails(t, have, window+over-1, len(b), api.ErrBack)
		}
	}
}

// P15.2 to P15.5: as long a text as may be.
func TestMostBytes(t *testing.T) {
	b := make([]byte, api.MaxBytes)
	b[len(b)-1] = 1
	have, e := lzma2.Make(b, 65536)
	if e != api.OK {
		t.Fatalf("error %d", int(e))
	}
	l, e := lzma2.Sizes(have)
	if e != api.OK || len(l) != api.MaxBytes/65536 || slices.Min(l) != 65536 || slices.Max(l) != 65536 {
		t.Errorf("%d sizes, error %d", len(l), int(e))
	}
	readTells(t, append(slices.Clone(have), 0, 1), 1<<23, api.MaxBytes, b, len(have))
	readFails(t, have, 1<<23, api.MaxBytes-1, api.ErrBig)
	have = append(have[:len(have)-1], 2, 0, 0, 'a', 0)
	readFails(t, have, 1<<23, api.MaxBytes, api.ErrBig)
}
