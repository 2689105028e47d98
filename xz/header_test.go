package xz_test

import (
	"bytes"
	"encoding/binary"
	"math"
	"math/rand"
	"slices"
	"testing"

	"hamper/api"
	"hamper/xz"
)

// P16.4: headers of every size, with and without each of both numbers, with bytes 0 behind the filter.
func TestHeaderSizes(t *testing.T) {
	const s = "banana"
	chunks := chunksOf(s)
	for units := 3; units <= 256; units++ {
		for _, flags := range []byte{0, 0x40, 0x80, 0xc0} {
			b := headerOf(flags, numbersOf(flags, len(chunks), len(s))+"\x21\x01\x00", units)
			if len(b) != 4*units || int(b[0]) != units-1 {
				t.Fatalf("a header of %d bytes, want %d", len(b), 4*units)
			}
			for _, check := range checks {
				readTells(t, streamOf(check, pieceOf(b, chunks, s, check)), 6, s)
			}
			readFails(t, append(headOf(0, 0), b[:len(b)-1]...), 6, api.ErrEnd)
		}
	}
}

// numbersOf tells the numbers that a header with such flags says.
func numbersOf(flags byte, packed, size int) string {
	var b []byte
	if flags&0x40 != 0 {
		b = append(b, modelLong(packed)...)
	}
	if flags&0x80 != 0 {
		b = append(b, modelLong(size)...)
	}
	return string(b)
}

// P16.4: headers of eight bytes, which have no room for a whole filter: each of their two bytes.
func TestLeastHeaders(t *testing.T) {
	for flags := range 4 {
		for fields := range 1 << 16 {
			b := headerOf(byte(flags<<6), string([]byte{byte(fields >> 8), byte(fields)}), 2)
			if len(b) != 8 || b[0] != 1 {
				t.Fatalf("% x", b)
			}
			if _, e := reads(t, slices.Concat(headOf(0, 0), b, []byte{0, 0, 0, 0}), 9); e != api.ErrForm && e != api.ErrKind {
				t.Errorf("% x: error %d", b, int(e))
			}
		}
	}
	for _, x := range []struct {
		flags  byte
		fields string
		want   api.Errno
	}{
		{0, "\x21\x01", api.ErrForm}, {0, "\x21\x00", api.ErrForm}, {0, "\xa1\x00", api.ErrForm}, {0, "\x80\x80", api.ErrForm},
		{0, "\x00\x00", api.ErrKind}, {0, "\x03\x01", api.ErrKind}, {0, "\xa1\x01", api.ErrKind},
		{0x40, "\x05\x21", api.ErrForm}, {0x40, "\x05\x22", api.ErrKind}, {0x40, "\x80\x80", api.ErrForm}, {0x40, "\x80\x01", api.ErrForm},
		{0x80, "\x05\x21", api.ErrForm}, {0x80, "\x05\x20", api.ErrKind}, {0x80, "\x80\x00", api.ErrForm}, {0x80, "\x81\x01", api.ErrForm},
		{0xc0, "\x05\x05", api.ErrForm}, {0xc0, "\x80\x01", api.ErrForm}, {0xc0, "\x21\x80", api.ErrForm},
		{1, "\x21\x01", api.ErrKind}, {0xff, "\x80\x80", api.ErrKind},
	} {
		readFails(t, append(headOf(0, 0), headerOf(x.flags, x.fields, 2)...), 9, x.want)
	}
}

// P16.4: bytes behind the filter that are not 0, at each place of headers of several sizes.
func TestBytesBehindTheFilter(t *testing.T) {
	const s = "banana"
	chunks := chunksOf(s)
	for _, units := range []int{3, 4, 5, 64, 255, 256} {
		for _, flags := range []byte{0, 0x40, 0x80, 0xc0} {
			good := headerOf(flags, numbersOf(flags, len(chunks), len(s))+"\x21\x01\x16", units)
			from := 2 + len(numbersOf(flags, 9, 9)) + 3
			for at := from; at < len(good)-4; at++ {
				for _, c := range []byte{1, 0x21, 0x80, 0xff} {
					b := slices.Clone(good[:len(good)-4])
					b[at] = c
					b = append(b, modelSum(b)...)
					readFails(t, streamOf(xz.None, pieceOf(b, chunks, s, xz.None)), 6, api.ErrForm)
				}
			}
		}
	}
}

// P16.4: each of the flags' lowest six bits, and all of them, with any numbers, right or not.
func TestHeaderFlags(t *testing.T) {
	const s = "banana"
	chunks := chunksOf(s)
	for flags := range 256 {
		for _, rest := range []string{"\x21\x01\x16", "\x21\x01\x29", "\x03\x01\x00", "\x80\x00\x00", "\xff\xff\xff\xff\xff"} {
			b := headerOf(byte(flags), numbersOf(byte(flags), len(chunks), len(s))+rest, 0)
			stream := streamOf(xz.Crc32, pieceOf(b, chunks, s, xz.Crc32))
			switch {
			case flags%64 != 0:
				readFails(t, stream, 6, api.ErrKind)
				stream[12+len(b)-1] ^= 1
				readFails(t, stream, 6, api.ErrSum)
			case rest == "\x21\x01\x16":
				readTells(t, stream, 6, s)
			case rest == "\x03\x01\x00":
				readFails(t, stream, 6, api.ErrKind)
			default:
				readFails(t, stream, 6, api.ErrForm)
			}
		}
	}
}

// P16.4: the filter's number, in one byte and in several.
func TestFilters(t *testing.T) {
	const s = "banana"
	chunks := chunksOf(s)
	read := func(filter string, want api.Errno) {
		t.Helper()
		for _, flags := range []byte{0, 0x40, 0x80, 0xc0} {
			for _, units := range []int{0, 9} {
				b := headerOf(flags, numbersOf(flags, len(chunks), len(s))+filter+"\x01\x16", units)
				stream := streamOf(xz.Crc64, pieceOf(b, chunks, s, xz.Crc64))
				if want == api.OK {
					readTells(t, stream, 6, s)
				} else {
					readFails(t, stream, 6, want)
				}
			}
		}
	}
	for c := range 128 {
		if c == 33 {
			read("\x21", api.OK)
			continue
		}
		read(string([]byte{byte(c)}), api.ErrKind)
	}
	for _, n := range []int{128, 161, 33 << 7, 33 + 1<<7, 33 + 1<<8, 33 + 1<<14, 33 + 1<<32, 33 + 1<<62, math.MaxInt} {
		read(string(modelLong(n)), api.ErrKind)
	}
	for _, none := range []string{"\xa1\x00", "\xa1\x80\x00", "\x80\x00", "\xa1\x80\x80\x80\x80\x80\x80\x80\x80\x01", "\xff\xff\xff\xff\xff\xff\xff\xff\xff\xff"} {
		read(none, api.ErrForm)
	}
	for _, units := range []int{2, 3, 4, 256} { // a number that goes on up to the sum, and beyond
		b := headerOf(0, string(bytes.Repeat([]byte{0x80}, max(2, 4*units-6))), units)
		readFails(t, append(headOf(0, 0), b...), 9, api.ErrForm)
	}
}

// P16.4: how many bytes the filter says of itself.
func TestFilterSizes(t *testing.T) {
	const s = "banana"
	for c := range 256 {
		b := headerOf(0, string([]byte{0x21, byte(c), 0x16}), 0)
		stream := streamOf(xz.None, pieceOf(b, chunksOf(s), s, xz.None))
		if c == 1 {
			readTells(t, stream, 6, s)
			continue
		}
		readFails(t, stream, 6, api.ErrForm)
	}
	readFails(t, append(headOf(0, 0), headerOf(0, "\x21\x81\x00\x16", 0)...), 6, api.ErrForm)
}

// P16.4: headers that end within the numbers or the filter, just ahead of their sum. Where bytes 0 stand behind what is cut off, these are the filter's.
func TestHeadersThatEndTooSoon(t *testing.T) {
	for size := range 9 {
		fields := string(modelLong(1<<(7*size)|1)) + "\x21\x01\x16"
		for cut := 2; cut < len(fields); cut++ {
			b := headerOf(0x40, fields[:cut], 0)
			want := api.ErrForm
			switch {
			case cut%4 == 2: // the sum stands right behind
			case fields[cut:] == "\x16": // the window is a byte 0
				want = api.ErrEnd
			case fields[cut:] == "\x21\x01\x16": // the filter is 0
				want = api.ErrKind
			}
			readFails(t, append(headOf(0, 0), b...), 9, want)
		}
	}
}

// P16.4: each byte of a window.
func TestWindowBytes(t *testing.T) {
	const s = "banana"
	for c := range 256 {
		b := headerOf(0, string([]byte{0x21, 0x01, byte(c)}), 0)
		stream := streamOf(xz.None, pieceOf(b, chunksOf(s), s, xz.None))
		if c <= 40 {
			readTells(t, stream, 6, s)
			continue
		}
		readFails(t, stream, 6, api.ErrForm)
	}
}

// P16.4: chunks are read with the window that the header tells.
func TestWindowsHold(t *testing.T) {
	r := rand.New(rand.NewSource(1640))
	for c, window := range map[byte]int{0: 4096, 1: 6144, 2: 8192, 5: 24576} {
		for over, want := range map[int]api.Errno{-1: api.OK, 0: api.OK, 1: api.ErrBack} {
			b := randomText(r, 60, 256)
			s := string(b) + string(make([]byte, window+over-len(b))) + string(b)
			p := pieceOf(headerOf(0, string([]byte{0x21, 0x01, c}), 0), chunksOf(s), s, xz.Crc32)
			if want == api.OK {
				readTells(t, streamOf(xz.Crc32, p), len(s), s)
			} else {
				readFails(t, streamOf(xz.Crc32, p), len(s), want)
			}
		}
	}
	for range 4 { // each block begins anew
		s := string(randomText(r, 100, 256))
		chunks := chunksOf(s + s)
		one := pieceOf(plainHeader, chunks, s+s, xz.None)
		readTells(t, streamOf(xz.None, one, one), 400, s+s+s+s)
	}
}

// P16.4: numbers said in a header that are so, and such that are not.
func TestHeaderNumbers(t *testing.T) {
	for _, s := range []string{"", "a", "banana", banana, string(make([]byte, 300))} {
		chunks := chunksOf(s)
		for _, flags := range []byte{0x40, 0x80, 0xc0} {
			read := func(packed, size int) {
				t.Helper()
				b := headerOf(flags, numbersOf(flags, packed, size)+"\x21\x01\x16", 0)
				p := pieceOf(b, chunks, s, xz.Crc32)
				so := (flags&0x40 == 0 || packed == len(chunks)) && (flags&0x80 == 0 || size == len(s))
				if so {
					readTells(t, streamOf(xz.Crc32, p), len(s), s)
					return
				}
				readFails(t, streamOf(xz.Crc32, p), len(s), api.ErrForm)
				readFails(t, append(headOf(0, xz.Crc32), p.bytes[:len(b)+len(chunks)]...), len(s), api.ErrForm)
			}
			others := func(n int) []int {
				return []int{0, 1, n, n + 1, max(0, n-1), 2 * n, n + 128, n + 1<<8, n + 1<<16, n + 1<<32, n + 1<<62, math.MaxInt - 1, math.MaxInt}
			}
			for _, packed := range others(len(chunks)) {
				for _, size := range others(len(s)) {
					read(packed, size)
				}
			}
		}
	}
}

// P16.4: numbers in a header that are none: of two forms, of ten bytes, and such that go on up to the sum.
func TestHeaderNumbersThatAreNone(t *testing.T) {
	const s = "banana"
	chunks := chunksOf(s)
	good := map[byte]string{0x40: string(modelLong(len(chunks))), 0x80: string(modelLong(len(s)))}
	more := func(n string) string { return string([]byte{n[0] | 0x80}) }
	for _, flags := range []byte{0x40, 0x80, 0xc0} {
		for _, wrong := range []byte{0x40, 0x80} {
			if flags&wrong == 0 {
				continue
			}
			for _, tail := range []string{"\x00", "\x80\x00", "\x80\x80\x80\x80\x80\x80\x80\x80\x01", "\xff\xff\xff\xff\xff\xff\xff\xff\xff\x7f"} {
				fields := ""
				for _, which := range []byte{0x40, 0x80} {
					switch {
					case flags&which == 0:
					case which == wrong:
						fields += more(good[which]) + tail
					default:
						fields += good[which]
					}
				}
				for _, rest := range []string{"\x21\x01\x16", "\x03\x01\x16"} {
					b := headerOf(flags, fields+rest, 0)
					readFails(t, streamOf(xz.None, pieceOf(b, chunks, s, xz.None)), 6, api.ErrForm)
				}
			}
		}
		for _, size := range []int{2, 6, 10} {
			b := headerOf(flags, string(bytes.Repeat([]byte{0xff}, size)), 0)
			readFails(t, append(headOf(0, 0), b...), 6, api.ErrForm)
		}
		b := headerOf(flags, "\x05\xff\xff\xff\xff\xff", 0)
		readFails(t, append(headOf(0, 0), b...), 6, api.ErrForm)
	}
}

// crook writes streams of which now and then a part is another one; all sums are those of what stands there, but for a few.
type crook struct {
	r      *rand.Rand
	seldom int
}

// now tells whether something is another one.
func (c *crook) now() bool { return c.r.Intn(c.seldom) == 0 }

// bend makes one of some bytes another one, now and then.
func (c *crook) bend(b []byte) []byte {
	if len(b) > 0 && c.now() {
		b = slices.Clone(b)
		b[c.r.Intn(len(b))] ^= 1 << c.r.Intn(8)
	}
	return b
}

// number tells a long number, now and then of another number, or none.
func (c *crook) number(n int) []byte {
	if !c.now() {
		return modelLong(n)
	}
	others := [][]byte{
		modelLong(n + 1), modelLong(max(0, n-1)), modelLong(c.r.Intn(1 << c.r.Intn(62))), modelLong(math.MaxInt),
		{0x80, 0}, bytes.Repeat([]byte{0xff}, 10), {0x80}, nil,
	}
	return others[c.r.Intn(len(others))]
}

// summed puts the sum of bytes behind them.
func (c *crook) summed(b []byte) []byte { return append(slices.Clone(b), c.bend(modelSum(b))...) }

// header tells a header.
func (c *crook) header(packed, size int) []byte {
	flags := byte(c.r.Intn(4) << 6)
	var fields []byte
	if flags&0x40 != 0 {
		fields = append(fields, c.number(packed)...)
	}
	if flags&0x80 != 0 {
		fields = append(fields, c.number(size)...)
	}
	fields = slices.Concat(fields, c.number(33), c.number(1), []byte{byte(12 + c.r.Intn(29))})
	b := modelFilled(slices.Concat([]byte{0}, c.bend([]byte{flags}), fields))
	b = append(b, make([]byte, 4*c.r.Intn(3))...)
	b[0] = byte(len(b) / 4)
	return c.summed(c.bend(b))
}

// block tells a block, and its record.
func (c *crook) block(check int) ([]byte, xz.Record) {
	s := string(repeating(c.r, c.r.Intn(30), 3))
	chunks := chunksOf(s)
	b := append(c.header(len(chunks), len(s)), c.bend(chunks)...)
	sum, _ := modelCheck(check, []byte(s))
	record := xz.Record{Size: len(b) + len(sum), Text: len(s)}
	b = append(b, c.bend(make([]byte, (4-len(b)%4)%4))...)
	return append(b, c.bend(sum)...), record
}

// index tells an index.
func (c *crook) index(l []xz.Record) []byte {
	b := append(c.bend([]byte{0}), c.number(len(l))...)
	for _, r := range l {
		b = slices.Concat(b, c.number(r.Size), c.number(r.Text))
	}
	b = append(b, c.bend(make([]byte, (4-len(b)%4)%4))...)
	return c.summed(b)
}

// stream tells a stream, and the bytes 0 behind it.
func (c *crook) stream() []byte {
	check := checks[c.r.Intn(3)]
	flags := []byte{0, byte(check)}
	b := append(c.bend([]byte("\xfd7zXZ\x00")), c.summed(c.bend(flags))...)
	var l []xz.Record
	for range c.r.Intn(3) {
		made, record := c.block(check)
		b = append(b, made...)
		l = append(l, record)
	}
	index := c.index(l)
	said := c.bend(append(binary.LittleEndian.AppendUint32(nil, uint32(len(index)/4-1)), flags...))
	b = slices.Concat(b, index, c.bend(modelSum(said)), said, c.bend([]byte("YZ")))
	if c.now() {
		return append(b, make([]byte, c.r.Intn(10))...)
	}
	return append(b, make([]byte, 4*c.r.Intn(3))...)
}

// P16.4: streams of which any part may be another one, against the words.
func TestCrookedStreams(t *testing.T) {
	r := rand.New(rand.NewSource(1641))
	told := map[api.Errno]int{}
	for range 25000 {
		c := &crook{r, 2 + r.Intn(60)}
		b := c.stream()
		for r.Intn(3) == 0 {
			b = append(b, c.stream()...)
		}
		if r.Intn(20) == 0 {
			b = b[:r.Intn(len(b)+1)]
		}
		_, e := reads(t, text(string(b)), r.Intn(1<<(2+r.Intn(7))))
		told[e]++
	}
	for _, e := range []api.Errno{api.OK, api.ErrBig, api.ErrEnd, api.ErrForm, api.ErrSum, api.ErrKind} {
		if told[e] < 500 {
			t.Errorf("error %d was told %d times", int(e), told[e])
		}
	}
}
