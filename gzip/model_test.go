package gzip_test

import (
	"bytes"
	library "compress/gzip"
	"encoding/binary"
	"errors"
	"fmt"
	"hash/crc32"
	"io"
	"slices"
	"testing"

	"hamper/api"
	"hamper/deflate"
	"hamper/gzip"
	"hamper/inflate"
)

// makeByWords is Make by the chapter's words alone; the sums are the library's.
func makeByWords(l []gzip.Member, block, kind int) ([]byte, api.Errno) {
	wrong := len(l) == 0 || block < 1 || block > 65535 || kind < 0 || kind > 3
	big := false
	for _, m := range l {
		wrong = wrong || len(m.Name) > 255 || bytes.Contains([]byte(m.Name), []byte{0}) || m.Time < 0 || m.Time >= 1<<32
		big = big || len(m.Data) > 1<<28
	}
	if wrong {
		return nil, api.ErrArg
	}
	if big {
		return nil, api.ErrBig
	}
	var b []byte
	for _, m := range l {
		flags := byte(0)
		if len(m.Name) > 0 {
			flags = 8
		}
		b = append(b, 0x1f, 0x8b, 8, flags)
		b = binary.LittleEndian.AppendUint32(b, uint32(m.Time))
		b = append(b, 0, 0xff)
		if len(m.Name) > 0 {
			b = append(append(b, m.Name...), 0)
		}
		packed, e := deflate.Deflate(m.Data, block, kind)
		if e != api.OK {
			return nil, e
		}
		b = append(b, packed...)
		b = append(b, tail(m.Data)...)
	}
	return b, api.OK
}

// tail is what stands behind a packed text.
func tail(text []byte) []byte {
	b := binary.LittleEndian.AppendUint32(nil, crc32.ChecksumIEEE(text))
	return binary.LittleEndian.AppendUint32(b, uint32(len(text)))
}

// readByWords is Read by the chapter's words alone; what is wrong is a panic of its number.
func readByWords(b []byte, most int) (l []gzip.Member, e api.Errno) {
	defer func() {
		if x := recover(); x != nil {
			l, e = nil, x.(api.Errno)
		}
	}()
	failIf(most < 0 || most > 1<<28, api.ErrArg)
	rest := b
	for {
		var m gzip.Member
		m, rest = memberByWords(rest, most)
		l = append(l, m)
		most -= len(m.Data)
		if len(rest) == 0 {
			return l, api.OK
		}
	}
}

func failIf(wrong bool, e api.Errno) {
	if wrong {
		panic(e)
	}
}

// memberByWords is the first member of bytes, and what is behind it.
func memberByWords(b []byte, most int) (m gzip.Member, rest []byte) {
	failIf(len(b) < 10, api.ErrEnd)
	failIf(!bytes.HasPrefix(b, []byte{0x1f, 0x8b}), api.ErrForm)
	failIf(b[2] != 8 || b[3] >= 0x20, api.ErrKind)
	flags := b[3]
	m.Time = int(binary.LittleEndian.Uint32(b[4:8]))
	rest = b[10:]
	if flags&4 > 0 {
		failIf(len(rest) < 2, api.ErrEnd)
		n := int(rest[0]) + 256*int(rest[1])
		failIf(len(rest) < 2+n, api.ErrEnd)
		rest = rest[2+n:]
	}
	if flags&8 > 0 {
		name, behind, found := bytes.Cut(rest, []byte{0})
		failIf(!found, api.ErrEnd)
		m.Name, rest = string(name), behind
	}
	if flags&16 > 0 {
		_, behind, found := bytes.Cut(rest, []byte{0})
		failIf(!found, api.ErrEnd)
		rest = behind
	}
	if flags&2 > 0 {
		sum := crc32.ChecksumIEEE(b[:len(b)-len(rest)]) % 65536
		failIf(len(rest) < 2, api.ErrEnd)
		failIf(sum != uint32(rest[0])+256*uint32(rest[1]), api.ErrSum)
		rest = rest[2:]
	}
	failIf(len(m.Name) > 255, api.ErrForm)
	text, used, e := inflate.Inflate(rest, most)
	failIf(e != api.OK, e)
	m.Data, rest = text, rest[used:]
	failIf(len(rest) < 8, api.ErrEnd)
	failIf(!bytes.Equal(rest[:8], tail(text)), api.ErrSum)
	return m, rest[8:]
}

// readByLibrary is the members as others tell them: their names' bytes are told as runes.
func readByLibrary(t *testing.T, b []byte) (l []gzip.Member) {
	t.Helper()
	from := bytes.NewReader(b)
	r, err := library.NewReader(from)
	for err == nil {
		r.Multistream(false)
		m := gzip.Member{}
		for _, x := range r.Name {
			m.Name += string([]byte{byte(x)})
		}
		if !r.ModTime.IsZero() {
			m.Time = int(r.ModTime.Unix())
		}
		if m.Data, err = io.ReadAll(r); err == nil {
			l = append(l, m)
			err = r.Reset(from)
		}
	}
	if !errors.Is(err, io.EOF) {
		t.Fatalf("others tell of % x (%d): %v", cut(b), len(b), err)
	}
	return l
}

// cut keeps messages short.
func cut(b []byte) []byte { return b[:min(len(b), 60)] }

func sameMember(a, b gzip.Member) bool {
	return a.Name == b.Name && a.Time == b.Time && bytes.Equal(a.Data, b.Data)
}

func sameMembers(a, b []gzip.Member) bool { return slices.EqualFunc(a, b, sameMember) }

// brief keeps messages of members short.
func brief(l []gzip.Member) string {
	out := ""
	for _, m := range l[:min(len(l), 4)] {
		out += fmt.Sprintf("{%q %d %q}", m.Name[:min(len(m.Name), 20)], m.Time, m.Data[:min(len(m.Data), 20)])
	}
	return fmt.Sprintf("%s (%d)", out, len(l))
}
