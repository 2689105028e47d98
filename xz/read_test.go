package xz_test

import (
	"math/rand"
	"slices"
	"testing"

	"hamper/api"
	"hamper/lzma2"
	"hamper/xz"
)

// piece is a block as it stands in a stream, and its record.
type piece struct {
	bytes  []byte
	record xz.Record
}

// plainHeader is what Make's blocks have.
var plainHeader = headerOf(0, "\x21\x01\x16", 0)

// headerOf tells a block's header: its flags, fields, and bytes 0 up to so many units of four bytes.
func headerOf(flags byte, fields string, units int) []byte {
	b := modelFilled(append([]byte{0, flags}, fields...))
	for len(b) < 4*units-4 {
		b = append(b, 0, 0, 0, 0)
	}
	b[0] = byte(len(b) / 4)
	return append(b, modelSum(b)...)
}

// chunksOf tells the chunks of a text.
func chunksOf(s string) []byte {
	b, _ := lzma2.Make([]byte(s), 65536)
	return b
}

// pieceOf tells the block of chunks and their text behind a header.
func pieceOf(header, chunks []byte, s string, check int) piece {
	b := slices.Concat(header, chunks)
	sum, _ := modelCheck(check, []byte(s))
	record := xz.Record{Size: len(b) + len(sum), Text: len(s)}
	return piece{append(modelFilled(b), sum...), record}
}

// plain tells the block that Make makes.
func plain(s string, check int) piece { return pieceOf(plainHeader, chunksOf(s), s, check) }

// streamOf tells a stream of blocks.
func streamOf(check int, l ...piece) []byte {
	var records []xz.Record
	for _, p := range l {
		records = append(records, p.record)
	}
	return streamWith(indexOf(records...), check, l...)
}

// streamWith tells a stream of blocks with another index.
func streamWith(index []byte, check int, l ...piece) []byte {
	return slices.Concat(beginning(check, l...), index, footOf(len(index), 0, byte(check)))
}

// beginning tells a stream up to its index.
func beginning(check int, l ...piece) []byte {
	b := headOf(0, byte(check))
	for _, p := range l {
		b = append(b, p.bytes...)
	}
	return b
}

// told is a stream, and what it tells.
type told struct {
	stream []byte
	text   string
}

// othersStreams tells streams that liblzma made: two of several blocks, whose headers say both numbers; two of one block, whose windows are less; one of none.
func othersStreams() []told {
	return []told{
		{unhex("fd377a585a000004e6d6b44602c02a2821011600b11248b9e0002700225d00399a08ce76d98e26020c63d1c15c63f51cbfa24ed73c724db281741e0e6fd070e2000000003128c95c4982c93d02c0262821011600cad28acee00027001e5d003419400636750b91f0a96a174408e258a03645000da85cc21376461d5b000000003237e5002252e16102c00905210116009c8e2101010004737572652e000000006e48df1b3d1cbc6700033e283a281d05e250c5bdb1c467fb020000000004595a"), shells},
		{unhex("fd377a585a000000ff12d94102c017142101250075361691e00013000f5d0031184a2bfebca15904b235d590db00000002c017132101250065ea3623010012612062616e64616e61732c2062616e616e6121000000022314231300006395024aa8000afc020000000000595a"), banana},
		{unhex("fd377a585a0000016922de360200210100000000372797d6e0005400361300399ad9d4744e9fa8fedb66eb2166d7e6c4d2a53e8cb9208ae9b44fdf57a8240d1565bfe69e13e5f0ea4da32a2e1e03a0b00ff9190000000000c8766e3000014e55db727d559042990d010000000001595a"), shells},
		{unhex("fd377a585a000000ff12d941020021010c0000008f98419ce0002600155d0031184a2bfebca15904b22c312d998719bf67d200000000000000012927ab9fcac106729e7a010000000000595a"), banana},
		{unhex("fd377a585a0000016922de36000000001cdf44219042990d010000000001595a"), ""},
	}
}

// ownStreams tells streams by the words: of each check, of several blocks, of headers of other sizes, of blocks without a text.
func ownStreams() []told {
	var l []told
	for _, check := range checks {
		both := string(modelLong(len(chunksOf("nothing but this")))) + string(modelLong(16))
		l = append(l,
			told{streamOf(check), ""},
			told{streamOf(check, plain("", check)), ""},
			told{streamOf(check, plain("a", check), plain("", check), plain("bc", check), plain("def", check), plain("ghij", check)), "abcdefghij"},
			told{streamOf(check, pieceOf(headerOf(0xc0, both+"\x21\x01\x00", 5), chunksOf("nothing but this"), "nothing but this", check), plain("!", check)), "nothing but this!"},
		)
	}
	return l
}

// P16.4: streams that liblzma made, and streams by the words.
func TestReadStreams(t *testing.T) {
	for _, x := range append(othersStreams(), ownStreams()...) {
		readTells(t, x.stream, len(x.text), x.text)
		readTells(t, x.stream, api.MaxBytes, x.text)
		reads(t, text(string(x.stream)), len(x.text))
		if len(x.text) > 0 {
			readFails(t, x.stream, len(x.text)-1, api.ErrBig)
			readFails(t, x.stream, 0, api.ErrBig)
		}
	}
}

// P16.4: streams that liblzma made by what is not known here: another check, and more than one filter.
func TestReadOthersKinds(t *testing.T) {
	for _, s := range []string{
		"fd377a585a00000ae1fb0ca10200210116000000742fe5a3e0002600155d0031184a2bfebca159046a8011878bf9be1b33a4800000000000e644cc15d2cfe1e7ba7b3f493ebbbca5b4e6b35a7f60899eb1d807efdb7e6280000149270cf437a4189b4b9a01000000000a595a",
		"fd377a585a0000016922de360201040021010000da33ad03e0002600155d0031184a2bfebca159046a8011878bf9be1b33a48000000000003b58444800012d27af5aa6a59042990d010000000001595a",
		"fd377a585a0000016922de3602010301002101002895101ae0002600195d00313fbdaf3e7f49ef7a40d597ae3ac8f898132b6ddf2d8aa000000000003b58444800013127f207d1439042990d010000000001595a",
	} {
		readFails(t, unhex(s), api.MaxBytes, api.ErrKind)
	}
}

// P16.4: streams cut off at every byte.
func TestCutAtEachByte(t *testing.T) {
	for _, x := range append(othersStreams(), ownStreams()...) {
		for cut := range x.stream {
			readFails(t, text(string(x.stream[:cut])), api.MaxBytes, api.ErrEnd)
			again := slices.Concat(x.stream, x.stream[:cut])
			if cut > 0 {
				readFails(t, again, api.MaxBytes, api.ErrEnd)
			}
		}
	}
}

// P16.4: streams with any one bit another one. Where that is read all the same, so is the text, if it is checked.
func TestEachBitAnother(t *testing.T) {
	for i, x := range append(othersStreams(), ownStreams()...) {
		for bit := range 8 * len(x.stream) {
			other := text(string(x.stream))
			other[bit/8] ^= 1 << (bit % 8)
			have, e := reads(t, other, api.MaxBytes)
			if e == api.OK && string(have) != x.text && x.stream[7] != xz.None {
				t.Errorf("stream %d with the bit %d another one: %q", i, bit, have)
			}
		}
	}
}

// P16.4: bytes 0 behind a stream, ahead of another one and of what is none.
func TestBehindStreams(t *testing.T) {
	one, two := streamOf(xz.Crc32, plain("one", xz.Crc32)), streamOf(xz.Crc64, plain("two", xz.Crc64), plain("!", xz.Crc64))
	for n := range 14 {
		noughts := make([]byte, n)
		behind := slices.Concat(one, noughts)
		ahead := slices.Concat(noughts, one)
		between := slices.Concat(one, noughts, two)
		both := slices.Concat(one, noughts, two, noughts, one, noughts)
		if n%4 != 0 {
			for _, b := range [][]byte{behind, between, both, slices.Concat(behind, []byte("no stream")), slices.Concat(behind, []byte{1})} {
				readFails(t, b, api.MaxBytes, api.ErrForm)
			}
			readFails(t, slices.Concat(two, make([]byte, 8), behind), api.MaxBytes, api.ErrForm)
		} else {
			readTells(t, behind, 3, "one")
			readTells(t, between, 7, "onetwo!")
			readFails(t, between, 6, api.ErrBig)
			readTells(t, both, 10, "onetwo!one")
			readFails(t, both, 9, api.ErrBig)
			readFails(t, slices.Concat(behind, []byte("no stream")), api.MaxBytes, api.ErrForm)
			readFails(t, slices.Concat(behind, []byte("short")), api.MaxBytes, api.ErrEnd)
			readFails(t, slices.Concat(behind, []byte{1}), api.MaxBytes, api.ErrEnd)
		}
		if n > 0 {
			readFails(t, ahead, api.MaxBytes, api.ErrForm)
		}
		if n >= 6 {
			readFails(t, noughts, api.MaxBytes, api.ErrForm)
		} else {
			readFails(t, noughts, api.MaxBytes, api.ErrEnd)
		}
	}
}

// P16.4: each of a head's first six bytes, and each of the flags' kinds.
func TestHeads(t *testing.T) {
	rest := streamOf(xz.None)[12:]
	for at := range 6 {
		for c := range 256 {
			b := headOf(0, 0)
			if b[at] == byte(c) {
				continue
			}
			b[at] = byte(c)
			for _, x := range [][]byte{b[:6], b[:7], b[:11], b, slices.Concat(b, rest)} {
				readFails(t, x, 9, api.ErrForm)
			}
			readFails(t, b[:5], 9, api.ErrEnd)
		}
	}
	for kind := range 256 {
		for first := range 256 {
			b := headOf(byte(first), byte(kind))
			_, is := modelCheck(kind, nil)
			whole := slices.Concat(b, indexOf(), footOf(8, byte(first), byte(kind)))
			if is && first == 0 {
				readTells(t, whole, 0, "")
				continue
			}
			for _, x := range [][]byte{b, whole, append(b, 1), append(b, 2, 63)} {
				readFails(t, x, 9, api.ErrKind)
			}
			readFails(t, b[:11], 9, api.ErrEnd)
			whole[8+kind%4] ^= 1 << (first % 8)
			readFails(t, whole, 9, api.ErrSum)
		}
	}
}

// P16.4: a foot of which something is others.
func TestFeet(t *testing.T) {
	for _, check := range checks {
		p := plain("a", check)
		index := indexOf(p.record)
		ahead := append(beginning(check, p), index...)
		good := footOf(len(index), 0, byte(check))
		readTells(t, slices.Concat(ahead, good), 1, "a")
		for at := range 12 {
			for c := range 256 {
				b := slices.Concat(ahead, good)
				if good[at] == byte(c) {
					continue
				}
				b[len(ahead)+at] = byte(c)
				want := api.ErrSum
				if at >= 10 {
					want = api.ErrForm
				}
				readFails(t, b, 1, want)
				b[len(ahead)] ^= 4 // the sum, too
				if at > 0 {
					readFails(t, b, 1, want)
				}
			}
		}
		for bit := range 32 { // of the size, the sum being right
			b := slices.Clone(good)
			b[4+bit/8] ^= 1 << (bit % 8)
			b = append(modelSum(b[4:10]), b[4:]...)
			readFails(t, slices.Concat(ahead, b), 1, api.ErrForm)
		}
		for _, size := range []int{0, 4, len(index) - 4, len(index) + 4, len(index) + 1<<16, 1 << 34} {
			readFails(t, slices.Concat(ahead, footOf(size, 0, byte(check))), 1, api.ErrForm)
		}
		for flags := range 1 << 16 {
			if flags != check {
				readFails(t, slices.Concat(ahead, footOf(len(index), byte(flags>>8), byte(flags))), 1, api.ErrForm)
			}
		}
	}
}

// P16.4: an index whose records are not those of the blocks.
func TestIndexOfOtherBlocks(t *testing.T) {
	for _, check := range checks {
		one, two := plain("a", check), plain("bcdef", check)
		records := []xz.Record{one.record, two.record}
		read := func(l []xz.Record, want api.Errno) {
			t.Helper()
			b := streamWith(indexOf(l...), check, one, two)
			if want == api.OK {
				readTells(t, b, 9, "abcdef")
				return
			}
			readFails(t, b, 9, want)
			readFails(t, b[:len(b)-12], 9, want) // ahead of the foot
		}
		read(records, api.OK)
		for _, l := range [][]xz.Record{nil, {records[0]}, {records[1]}, {records[1], records[0]}, {records[0], records[0]}, {records[0], records[1], records[0]}, {records[0], records[1], {5, 0}}} {
			read(l, api.ErrForm)
		}
		for at := range records {
			for _, by := range []xz.Record{{1, 0}, {-1, 0}, {4, 0}, {0, 1}, {0, -1}, {1, 1}, {1, -1}, {-1, 1}, {1 << 32, 0}, {0, 1 << 32}, {1 << 40, 0}} {
				l := slices.Clone(records)
				l[at].Size += by.Size
				l[at].Text += by.Text
				read(l, api.ErrForm)
			}
		}
		good := indexOf(records...)
		for bit := range 8 * len(good) {
			index := slices.Clone(good)
			index[bit/8] ^= 1 << (bit % 8)
			if _, e := reads(t, streamWith(index, check, one, two), 9); e == api.OK {
				t.Errorf("an index with the bit %d another one", bit)
			}
		}
	}
}

// P16.4: a stream of no block has an index of no record; of other records it is ErrForm.
func TestIndexWithoutBlocks(t *testing.T) {
	readTells(t, streamWith(indexOf(), xz.None, nil...), 0, "")
	readFails(t, streamWith(indexOf(xz.Record{Size: 5}), xz.None), 0, api.ErrForm)
	readFails(t, streamWith(indexOf(), xz.None, plain("", xz.None)), 0, api.ErrForm)
}

// P16.4: as many blocks as an index tells, and one more.
func TestReadMostBlocks(t *testing.T) {
	one := pieceOf(plainHeader, []byte{0}, "", xz.None)
	l := slices.Repeat([]piece{one}, 65537)
	readTells(t, streamOf(xz.None, l[:65536]...), 0, "")
	readFails(t, streamOf(xz.None, l...), 0, api.ErrForm)
	readFails(t, streamOf(xz.None, l...)[:12+len(one.bytes)*65537], 0, api.ErrEnd)
}

// P16.4: what fills up a block, and its check.
func TestBehindChunks(t *testing.T) {
	for _, check := range checks {
		for size := range 9 {
			s := "abcdefghi"[:size]
			p := plain(s, check)
			readTells(t, streamOf(check, p), size, s)
			sum, _ := modelCheck(check, []byte(s))
			for at := 12 + len(chunksOf(s)); at < len(p.bytes); at++ {
				want := api.ErrForm
				if at >= len(p.bytes)-len(sum) {
					want = api.ErrSum
				}
				for _, by := range []byte{1, 0x80, 0xff} {
					b := slices.Clone(p.bytes)
					b[at] ^= by
					readFails(t, streamOf(check, piece{b, p.record}), size, want)
					ahead := beginning(check, piece{b, p.record})
					readFails(t, ahead, size, want)
					switch {
					case want == api.ErrSum:
						readFails(t, ahead[:len(ahead)-1], size, api.ErrEnd)
					default: // one that fills up is told as it is read
						readFails(t, ahead[:12+at+1], size, api.ErrForm)
						readFails(t, ahead[:12+at], size, api.ErrEnd)
					}
				}
			}
		}
	}
}

// P16.4: lzma2.Read's errors are told as they are.
func TestErrorsOfChunks(t *testing.T) {
	for _, x := range []struct {
		what   string
		chunks string
		want   api.Errno
	}{
		{"no end", "\x01\x00\x00a", api.ErrEnd},
		{"a kind that is none", "\x03\x00", api.ErrForm},
		{"a first chunk that may not be", "\x02\x00\x00a\x00", api.ErrForm},
		{"props that none have", "\xe0\x00\x00\x00\x05\xe1\x00\x00\x00\x00\x00\x00\x00", api.ErrForm},
		{"packed bytes that do not begin with 0", "\xe0\x00\x00\x00\x04\x5d\x01\x00\x00\x00\x00\x00", api.ErrForm},
		{"packed bytes that are too few", "\xe0\x00\x00\x00\x03\x5d\x00\x00\x00\x00\x00", api.ErrEnd},
		{"more bytes than are unpacked", "\xf0\x00\x00\x00\x04\x5d\x00\x00\x00\x00\x00\x00", api.ErrArg},
		{"more bytes than may come", "\x01\x00\x01ab\x00", api.ErrBig},
	} {
		most := api.MaxBytes
		if x.want == api.ErrBig {
			most = 1
		}
		for _, flags := range []byte{0, 0xc0} {
			header := headerOf(flags, numbersOf(flags, 99, 99)+"\x21\x01\x16", 0)
			ahead := slices.Concat(headOf(0, xz.None), header, []byte(x.chunks))
			if have, e := xz.Read(ahead, most); e != x.want || len(have) != 0 {
				t.Errorf("%s: % x, error %d, want %d", x.what, have, int(e), int(x.want))
			}
		}
	}
}

// P16.4: a check of another text, and one of another kind.
func TestChecks(t *testing.T) {
	for _, check := range checks[1:] {
		p := plain("banana", check)
		other, _ := modelCheck(check, []byte("bananas"))
		b := append(slices.Clone(p.bytes[:len(p.bytes)-len(other)]), other...)
		readFails(t, streamOf(check, piece{b, p.record}), 9, api.ErrSum)
		readFails(t, streamOf(check, piece{b, p.record}), 5, api.ErrBig)
		b = slices.Clone(p.bytes)
		slices.Reverse(b[len(b)-len(other):])
		readFails(t, streamOf(check, piece{b, p.record}), 9, api.ErrSum)
	}
	readFails(t, streamOf(xz.Crc32, plain("banana", xz.Crc64)), 9, api.ErrSum)
	readFails(t, streamOf(xz.Crc64, plain("banana", xz.Crc32)), 9, api.ErrSum)
	readFails(t, streamOf(xz.None, plain("banana", xz.Crc32)), 9, api.ErrEnd) // a header of more bytes than there are
}

// P16.4: most less what came out, of blocks and of streams.
func TestMostOfAll(t *testing.T) {
	one := streamOf(xz.Crc32, plain("abc", xz.Crc32), plain("", xz.Crc32), plain("de", xz.Crc32))
	two := streamOf(xz.None, plain("", xz.None), plain("fghi", xz.None))
	b := slices.Concat(one, two, two, streamOf(xz.None, plain("", xz.None)), make([]byte, 4))
	for most := range 13 {
		readFails(t, b, most, api.ErrBig)
	}
	for _, most := range []int{13, 14, api.MaxBytes} {
		readTells(t, b, most, "abcdefghifghi")
	}
	readFails(t, append(slices.Clone(b), 1), 12, api.ErrBig)
	readFails(t, append(slices.Clone(b), 1), 13, api.ErrEnd)
}

// P16.4: which error is told, where two would fit.
func TestOrderOfErrors(t *testing.T) {
	cat := func(l ...[]byte) []byte { return slices.Concat(l...) }
	changed := func(b []byte, at int) []byte {
		b = slices.Clone(b)
		if at < 0 {
			at += len(b)
		}
		b[at] ^= 0x10
		return b
	}
	head := headOf(0, xz.Crc32)
	p := plain("banana", xz.Crc32)
	body, check := p.bytes[:len(p.bytes)-4], p.bytes[len(p.bytes)-4:]
	ahead := cat(head, p.bytes)
	index := indexOf(p.record)
	foot := footOf(len(index), 0, xz.Crc32)
	chunks := chunksOf("banana")
	wrongFlags := headerOf(1, "\x21\x01\x16", 0)
	for _, x := range []struct {
		what string
		b    []byte
		most int
		want api.Errno
	}{
		{"nothing", nil, 9, api.ErrEnd},
		{"five other bytes", []byte("BZh91"), 9, api.ErrEnd},
		{"six other bytes, and none behind them", []byte("BZh91A"), 9, api.ErrForm},
		{"six other bytes, and a wrong sum", changed(changed(head, 0), -1), 9, api.ErrForm},
		{"six other bytes, and no kind", changed(headOf(1, 1), 5), 9, api.ErrForm},
		{"no kind, and no sum", headOf(1, 1)[:8], 9, api.ErrEnd},
		{"no kind, and three bytes of a sum", headOf(1, 1)[:11], 9, api.ErrEnd},
		{"three bytes of a wrong sum", changed(head, 8)[:11], 9, api.ErrEnd},
		{"no kind, and a wrong sum", changed(headOf(1, 1), -1), 9, api.ErrSum},
		{"no kind, and nothing behind it", headOf(0, 2), 9, api.ErrKind},
		{"no kind, and a header that is none", cat(headOf(0, 2), changed(plainHeader, 2)), 9, api.ErrKind},
		{"nothing behind the head", head, 9, api.ErrEnd},
		{"a header that lacks a byte, and a flag that may not be", cat(head, wrongFlags[:11]), 9, api.ErrEnd},
		{"a header that lacks a byte, and a wrong sum", cat(head, changed(plainHeader, 8)[:11]), 9, api.ErrEnd},
		{"a header of more bytes than there are", cat(head, []byte{255}, p.bytes[1:], index, foot), 9, api.ErrEnd},
		{"a wrong sum of a header, and a flag that may not be", cat(head, changed(wrongFlags, -1)), 9, api.ErrSum},
		{"a wrong sum of a header, and another filter", cat(head, changed(plainHeader, 2)), 9, api.ErrSum},
		{"a flag that may not be, and a number that is none", cat(head, headerOf(0x41, "\x80\x00\x21\x01\x16", 0)), 9, api.ErrKind},
		{"a flag that may not be, and bytes that are not 0", cat(head, headerOf(0x20, "\x21\x01\x16\x01", 0)), 9, api.ErrKind},
		{"a number that is none, and another filter", cat(head, headerOf(0x80, "\x80\x00\x03\x01\x16", 0)), 9, api.ErrForm},
		{"another filter, and no 1", cat(head, headerOf(0, "\x03\x02\x16", 0)), 9, api.ErrKind},
		{"another filter, and bytes that are not 0", cat(head, headerOf(0, "\x03\x01\x16\x01", 0)), 9, api.ErrKind},
		{"another filter, and no chunk", cat(head, headerOf(0, "\x03\x01\x16", 0)), 9, api.ErrKind},
		{"another filter, and a number that is not so", cat(head, headerOf(0x80, "\x05\x03\x01\x16", 0), p.bytes[12:]), 9, api.ErrKind},
		{"a window that may not be, and no chunk", cat(head, headerOf(0, "\x21\x01\x29", 0)), 9, api.ErrForm},
		{"a window that may not be, and more bytes than may come", cat(head, headerOf(0, "\x21\x01\x29", 0), p.bytes[12:]), 5, api.ErrForm},
		{"bytes that are not 0, and no chunk", cat(head, headerOf(0, "\x21\x01\x16\x01", 0)), 9, api.ErrForm},
		{"no chunk", cat(head, plainHeader), 9, api.ErrEnd},
		{"more bytes than may come, and none of them there", cat(head, plainHeader, chunks[:3]), 5, api.ErrBig},
		{"more bytes than may come, and another number", cat(head, headerOf(0x80, "\x05\x21\x01\x16", 0), p.bytes[12:]), 5, api.ErrBig},
		{"chunks that lack their end, and another number", cat(head, headerOf(0x80, "\x05\x21\x01\x16", 0), chunks[:len(chunks)-1]), 9, api.ErrEnd},
		{"chunks that are none, and another number", cat(head, headerOf(0x40, "\x05\x21\x01\x16", 0), []byte{2, 0, 0, 'a', 0}), 9, api.ErrForm},
		{"another number, and nothing that fills up", cat(head, headerOf(0x80, "\x05\x21\x01\x16", 0), chunks), 9, api.ErrForm},
		{"another number, and a wrong check", cat(head, headerOf(0x80, "\x05\x21\x01\x16", 0), chunks, []byte{0, 0}, changed(check, 0)), 9, api.ErrForm},
		{"nothing that fills up", cat(head, plainHeader, chunks), 9, api.ErrEnd},
		{"another byte that fills up, and none behind it", cat(head, plainHeader, chunks, []byte{1}), 9, api.ErrForm},
		{"another byte that fills up, and no check", cat(head, plainHeader, chunks, []byte{0, 1}), 9, api.ErrForm},
		{"another byte that fills up, and a wrong check", cat(head, changed(body, -1), changed(check, 0)), 9, api.ErrForm},
		{"no check", cat(head, body), 9, api.ErrEnd},
		{"three bytes of a wrong check", cat(head, body, changed(check, 0)[:3]), 9, api.ErrEnd},
		{"a wrong check, and no index", cat(head, body, changed(check, 0)), 9, api.ErrSum},
		{"a wrong check, and a header that is none", cat(head, body, changed(check, 0), changed(p.bytes, 2)), 9, api.ErrSum},
		{"no index", ahead, 9, api.ErrEnd},
		{"other records, and no sum", cat(ahead, indexOf()[:4]), 9, api.ErrEnd},
		{"other records, and a wrong sum", cat(ahead, changed(indexOf(), -1)), 9, api.ErrSum},
		{"other records, of which one may not be, and a wrong sum", cat(ahead, changed(indexOf(xz.Record{Size: 4}), -1)), 9, api.ErrForm},
		{"other records, and no foot", cat(ahead, indexOf()), 9, api.ErrForm},
		{"other records, and a foot that does not end so", cat(ahead, indexOf(), changed(foot, -1)), 9, api.ErrForm},
		{"other records, and a wrong sum of the foot", cat(ahead, indexOf(), changed(foot, 0)), 9, api.ErrForm},
		{"no foot", cat(ahead, index), 9, api.ErrEnd},
		{"a foot that lacks a byte, and a wrong sum", cat(ahead, index, changed(foot, 0)[:11]), 9, api.ErrEnd},
		{"a foot that lacks a byte, and does not end so", cat(ahead, index, changed(foot, 10)[:11]), 9, api.ErrEnd},
		{"a foot that does not end so, and a wrong sum", cat(ahead, index, changed(changed(foot, 0), 10)), 9, api.ErrForm},
		{"a foot that does not end so, and another size", cat(ahead, index, changed(footOf(4, 0, 1), 11)), 9, api.ErrForm},
		{"a wrong size of the foot, and a wrong sum", cat(ahead, index, changed(footOf(4, 0, 1), 0)), 9, api.ErrSum},
		{"other flags of the foot, and a wrong sum", cat(ahead, index, changed(footOf(len(index), 0, 4), 0)), 9, api.ErrSum},
		{"another size of the foot, and a byte 0", cat(ahead, index, footOf(4, 0, 1), []byte{0}), 9, api.ErrForm},
		{"a wrong sum of the foot, and a byte 0", cat(ahead, index, changed(foot, 0), []byte{0}), 9, api.ErrSum},
		{"a byte 0, and no stream", cat(ahead, index, foot, []byte("\x00BZh")), 9, api.ErrForm},
		{"a byte 0, and a head of no kind", cat(ahead, index, foot, []byte{0}, headOf(0, 2)), 9, api.ErrForm},
		{"four bytes 0, and a head of no kind", cat(ahead, index, foot, []byte{0, 0, 0, 0}, headOf(0, 2)), 9, api.ErrKind},
		{"four bytes 0, and more than may come", cat(ahead, index, foot, []byte{0, 0, 0, 0}, ahead), 11, api.ErrBig},
		{"more than may come, and a wrong foot", cat(ahead, index, changed(foot, 0)), 5, api.ErrBig},
	} {
		if _, e := xz.Read(x.b, x.most); e != x.want {
			t.Errorf("%s: Read(% x, %d): error %d, want %d", x.what, x.b, x.most, int(e), int(x.want))
		}
		readFails(t, x.b, x.most, x.want)
		reads(t, text(string(x.b)), x.most)
	}
	readTells(t, cat(ahead, index, foot), 6, "banana")
}

// P16.4: bytes that no call made, behind streams and behind beginnings of such.
func TestAnyBytes(t *testing.T) {
	r := rand.New(rand.NewSource(1630))
	var begin [][]byte
	for _, x := range append(othersStreams(), ownStreams()...) {
		begin = append(begin, x.stream, x.stream[:12], x.stream[:min(24, len(x.stream))], x.stream[:len(x.stream)-12])
	}
	begin = append(begin, nil)
	for range 30000 {
		b := slices.Concat(begin[r.Intn(len(begin))], randomText(r, r.Intn(1<<r.Intn(7)), 1+r.Intn(256)))
		reads(t, text(string(b)), r.Intn(1<<r.Intn(9)))
	}
}

// P16.4: streams that have a byte more, one less, or another one.
func TestChangedStreams(t *testing.T) {
	r := rand.New(rand.NewSource(1631))
	streams := append(othersStreams(), ownStreams()...)
	for range 15000 {
		b := text(string(streams[r.Intn(len(streams))].stream))
		at := r.Intn(len(b))
		switch r.Intn(4) {
		case 0:
			b = slices.Insert(b, at, byte(r.Intn(256)))
		case 1:
			b = slices.Delete(b, at, at+1)
		case 2:
			b[at] = byte(r.Intn(256))
		default:
			b = append(b, streams[r.Intn(len(streams))].stream[r.Intn(3)*4:]...)
		}
		reads(t, b, r.Intn(200))
	}
}
