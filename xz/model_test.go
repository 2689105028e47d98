package xz_test

import (
	"encoding/binary"
	"hash/crc32"
	"hash/crc64"

	"hamper/api"
	"hamper/lzma2"
	"hamper/xz"
)

// The model tells each answer by the document's words alone, by chunks of layer 15 and by the library's sums. What is wrong it tells by a panic with the error's number.

// modelCheck tells the check of a text; false: there is no such kind.
func modelCheck(kind int, text []byte) ([]byte, bool) {
	switch kind {
	case 0:
		return nil, true
	case 1:
		return modelSum(text), true
	case 4:
		return binary.LittleEndian.AppendUint64(nil, crc64.Checksum(text, crc64.MakeTable(crc64.ECMA))), true
	}
	return nil, false
}

func modelSum(b []byte) []byte {
	return binary.LittleEndian.AppendUint32(nil, crc32.ChecksumIEEE(b))
}

// modelLong tells a long number of one that is not below 0.
func modelLong(n int) []byte { return binary.AppendUvarint(nil, uint64(n)) }

// modelFilled puts bytes 0 behind bytes until they are a multiple of four.
func modelFilled(b []byte) []byte {
	for len(b)%4 != 0 {
		b = append(b, 0)
	}
	return b
}

func mayBe(r xz.Record) bool {
	return r.Size >= 5 && r.Size <= 1<<40 && r.Text >= 0 && r.Text <= 1<<40
}

func modelIndex(l []xz.Record) ([]byte, api.Errno) {
	for _, r := range l {
		if !mayBe(r) {
			return nil, api.ErrArg
		}
	}
	if len(l) > 65536 {
		return nil, api.ErrArg
	}
	return indexOf(l...), api.OK
}

// indexOf tells an index of records that may be or not.
func indexOf(l ...xz.Record) []byte {
	b := append([]byte{0}, modelLong(len(l))...)
	for _, r := range l {
		b = append(append(b, modelLong(r.Size)...), modelLong(r.Text)...)
	}
	b = modelFilled(b)
	return append(b, modelSum(b)...)
}

// headOf tells a stream's head with such flags.
func headOf(flags ...byte) []byte {
	return append(append([]byte("\xfd7zXZ\x00"), flags...), modelSum(flags)...)
}

// footOf tells the foot behind an index of so many bytes, with such flags.
func footOf(size int, flags ...byte) []byte {
	b := append(binary.LittleEndian.AppendUint32(nil, uint32(size/4-1)), flags...)
	return append(append(modelSum(b), b...), 0x59, 0x5a)
}

func modelMake(b []byte, block, check int) ([]byte, api.Errno) {
	if _, is := modelCheck(check, nil); block < 1 || block > 1<<20 || !is {
		return nil, api.ErrArg
	}
	if len(b) > api.MaxBytes || (len(b)+block-1)/block > 65536 {
		return nil, api.ErrBig
	}
	out := headOf(0, byte(check))
	var l []xz.Record
	for at := 0; at < len(b); at += block {
		text := b[at:min(len(b), at+block)]
		header := []byte{2, 0, 0x21, 1, 0x16, 0, 0, 0}
		chunks, _ := lzma2.Make(text, 65536)
		sum, _ := modelCheck(check, text)
		made := append(append(header, modelSum(header)...), chunks...)
		l = append(l, xz.Record{Size: len(made) + len(sum), Text: len(text)})
		out = append(append(out, modelFilled(made)...), sum...)
	}
	index := indexOf(l...)
	return append(append(out, index...), footOf(len(index), 0, byte(check))...), api.OK
}

// source gives the bytes of b from at on.
type source struct {
	b  []byte
	at int
}

// unless tells an error, if it is not so.
func unless(ok bool, e api.Errno) {
	if !ok {
		panic(e)
	}
}

// caught tells the error that a function told.
func caught(f func()) (e api.Errno) {
	defer func() {
		if x := recover(); x != nil {
			e = x.(api.Errno)
		}
	}()
	f()
	return api.OK
}

func (s *source) next(n int) []byte {
	unless(len(s.b)-s.at >= n, api.ErrEnd)
	s.at += n
	return s.b[s.at-n : s.at]
}

func (s *source) long() int {
	v := 0
	for i := range 10 {
		c := s.next(1)[0]
		unless(i < 9 && (c != 0 || i == 0), api.ErrForm)
		v += int(c%128) << (7 * i)
		if c < 128 {
			break
		}
	}
	return v
}

// filled reads the bytes 0 that fill up what came from a place on.
func (s *source) filled(from int) {
	for (s.at-from)%4 != 0 {
		unless(s.next(1)[0] == 0, api.ErrForm)
	}
}

// summed reads the sum of b.
func (s *source) summed(b []byte) { unless(string(s.next(4)) == string(modelSum(b)), api.ErrSum) }

// index reads an index.
func (s *source) index() []xz.Record {
	from := s.at
	unless(s.next(1)[0] == 0, api.ErrForm)
	n := s.long()
	unless(n <= 65536, api.ErrForm)
	var l []xz.Record
	for range n {
		size := s.long()
		text := s.long()
		unless(mayBe(xz.Record{Size: size, Text: text}), api.ErrForm)
		l = append(l, xz.Record{Size: size, Text: text})
	}
	s.filled(from)
	s.summed(s.b[from:s.at])
	return l
}

func modelReadIndex(b []byte) (l []xz.Record, used int, e api.Errno) {
	s := &source{b: b}
	if e = caught(func() { l = s.index() }); e != api.OK {
		return nil, 0, e
	}
	return l, s.at, api.OK
}

func modelRead(b []byte, most int) (text []byte, e api.Errno) {
	if most < 0 || most > api.MaxBytes {
		return nil, api.ErrArg
	}
	s := &source{b: b}
	e = caught(func() {
		for s.at == 0 || s.at < len(b) {
			text = s.stream(text, most)
			from := s.at
			for s.at < len(b) && b[s.at] == 0 {
				s.at++
			}
			unless((s.at-from)%4 == 0, api.ErrForm)
		}
	})
	if e != api.OK {
		return nil, e
	}
	return text, api.OK
}

// stream reads a stream, and puts what comes out behind a text.
func (s *source) stream(text []byte, most int) []byte {
	unless(string(s.next(6)) == "\xfd7zXZ\x00", api.ErrForm)
	flags := s.next(2)
	s.summed(flags)
	check := int(flags[1])
	_, is := modelCheck(check, nil)
	unless(flags[0] == 0 && is, api.ErrKind)
	var l []xz.Record
	for {
		kind := s.next(1)[0]
		s.at--
		if kind == 0 {
			break
		}
		piece, r := s.block(check, most-len(text))
		text = append(text, piece...)
		l = append(l, r)
	}
	from := s.at
	said := s.index()
	size := s.at - from
	unless(len(said) == len(l), api.ErrForm)
	for i, r := range said {
		unless(r.Size == l[i].Size && r.Text == l[i].Text, api.ErrForm)
	}
	foot := s.next(12)
	unless(foot[10] == 0x59 && foot[11] == 0x5a, api.ErrForm)
	unless(string(foot[:4]) == string(modelSum(foot[4:10])), api.ErrSum)
	unless((int(binary.LittleEndian.Uint32(foot[4:]))+1)*4 == size, api.ErrForm)
	unless(foot[8] == flags[0] && foot[9] == flags[1], api.ErrForm)
	return text
}

// block reads a block, and tells what comes out, and its record.
func (s *source) block(check, most int) ([]byte, xz.Record) {
	from := s.at
	header := s.next((int(s.b[from])+1)*4 - 4)
	s.summed(header)
	packed, size, window := fieldsOf(header)
	text, used, e := lzma2.Read(s.b[s.at:], window, most)
	unless(e == api.OK, e)
	unless(packed < 0 || packed == used, api.ErrForm)
	unless(size < 0 || size == len(text), api.ErrForm)
	s.at += used
	unfilled := s.at - from
	s.filled(from)
	sum, _ := modelCheck(check, text)
	unless(string(s.next(len(sum))) == string(sum), api.ErrSum)
	return text, xz.Record{Size: unfilled + len(sum), Text: len(text)}
}

// fieldsOf tells what a header says: two numbers (-1 of one that it does not say), and the window.
func fieldsOf(header []byte) (packed, size, window int) {
	flags := header[1]
	unless(flags%64 == 0, api.ErrKind)
	s := &source{b: header, at: 2}
	packed, size = -1, -1
	e := caught(func() {
		if flags>>6&1 == 1 {
			packed = s.long()
		}
		if flags>>7 == 1 {
			size = s.long()
		}
		unless(s.long() == 33, api.ErrKind)
		unless(s.next(1)[0] == 1, api.ErrForm)
		var e api.Errno
		window, e = lzma2.Window(s.next(1)[0])
		unless(e == api.OK, e)
		for s.at < len(header) {
			unless(s.next(1)[0] == 0, api.ErrForm)
		}
	})
	unless(e != api.ErrEnd, api.ErrForm)
	unless(e == api.OK, e)
	return packed, size, window
}
