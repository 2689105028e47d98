package gzip_test

import (
	"bytes"
	library "compress/gzip"
	"encoding/binary"
	"encoding/hex"
	"hash/crc32"
	"io"
	"math"
	"math/rand"
	"slices"
	"strings"
	"testing"
	"time"

	"hamper/api"
	"hamper/deflate"
	"hamper/gzip"
)

var allKinds = []int{deflate.Best, deflate.Stored, deflate.Fixed, deflate.Told}

// roomy copies members into memory with more behind each list.
func roomy(l []gzip.Member) []gzip.Member {
	out := make([]gzip.Member, 0, len(l)+2)
	for _, m := range l {
		m.Data = append(slices.Clone(m.Data), 0xa5, 0x5a)[:len(m.Data)]
		out = append(out, m)
	}
	return append(out, gzip.Member{Name: "\x00", Time: -1}, gzip.Member{Name: "behind"})[:len(l)]
}

// sameRoom is whether members, and all that is behind their lists, are the same.
func sameRoom(a, b []gzip.Member) bool {
	if !sameMembers(a[:len(a)+2], b[:len(b)+2]) {
		return false
	}
	for i := range a {
		if n := len(a[i].Data); !bytes.Equal(a[i].Data[:n+2], b[i].Data[:n+2]) {
			return false
		}
	}
	return true
}

// made asks for members' bytes, and whether what was handed in, and the room behind it, stayed as it was.
func made(t *testing.T, l []gzip.Member, block, kind int) ([]byte, api.Errno) {
	t.Helper()
	given, kept := roomy(l), roomy(l)
	b, e := gzip.Make(given, block, kind)
	if !sameRoom(given, kept) {
		t.Errorf("Make(%v, %d, %d) changed what was handed in", brief(l), block, kind)
	}
	if e != api.OK && len(b) != 0 {
		t.Errorf("Make(%v, %d, %d) = % x (%d) beside %v", brief(l), block, kind, cut(b), len(b), e)
	}
	return b, e
}

// checkMake asks for members' bytes as the model tells them.
func checkMake(t *testing.T, l []gzip.Member, block, kind int) []byte {
	t.Helper()
	b, e := made(t, l, block, kind)
	want, wantE := makeByWords(l, block, kind)
	if !bytes.Equal(b, want) || e != wantE {
		t.Fatalf("Make(%v, %d, %d) = % x (%d), %v, want % x (%d), %v", brief(l), block, kind, cut(b), len(b), e, cut(want), len(want), wantE)
	}
	return b
}

func checkMakeFails(t *testing.T, l []gzip.Member, block, kind int, want api.Errno) {
	t.Helper()
	if b, e := gzip.Make(l, block, kind); len(b) != 0 || e != want {
		t.Errorf("Make(%v, %d, %d) = % x (%d), %v, want %v", brief(l), block, kind, cut(b), len(b), e, want)
	}
}

// members asks for the members, whether Text tells the same (P9.4), and whether what was handed in, and the room behind it, stayed as it was.
func members(t *testing.T, b []byte, most int) ([]gzip.Member, api.Errno) {
	t.Helper()
	room := append(slices.Clone(b), 0, 0, 0, 0, 0, 0, 0, 0, 0, 0xa5) // a member that is cut would go on there
	kept := slices.Clone(room)
	l, e := gzip.Read(room[:len(b)], most)
	text, textE := gzip.Text(room[:len(b)], most)
	if !bytes.Equal(room, kept) {
		t.Errorf("Read or Text of % x (%d), %d changed what was handed in", cut(b), len(b), most)
	}
	if e != api.OK && (len(l) != 0 || len(text) != 0) {
		t.Errorf("Read or Text of % x (%d), %d tell %v or %q beside %v", cut(b), len(b), most, brief(l), cut(text), e)
	}
	var all []byte
	for _, m := range l {
		all = append(all, m.Data...)
	}
	if !bytes.Equal(text, all) || textE != e {
		t.Errorf("Text(% x (%d), %d) = %q (%d), %v, but Read tells %q (%d), %v", cut(b), len(b), most, cut(text), len(text), textE, cut(all), len(all), e)
	}
	return l, e
}

// check asks for members and an error that are given, of the model, too.
func check(t *testing.T, b []byte, most int, want []gzip.Member, wantE api.Errno) {
	t.Helper()
	if l, e := readByWords(b, most); !sameMembers(l, want) || e != wantE {
		t.Errorf("the model tells of % x (%d), %d: %v, %v, want %v, %v", cut(b), len(b), most, brief(l), e, brief(want), wantE)
	}
	if l, e := members(t, b, most); !sameMembers(l, want) || e != wantE {
		t.Errorf("Read(% x (%d), %d) = %v, %v, want %v, %v", cut(b), len(b), most, brief(l), e, brief(want), wantE)
	}
}

func checkTells(t *testing.T, b []byte, want ...gzip.Member) {
	t.Helper()
	check(t, b, api.MaxBytes, want, api.OK)
}

func checkFails(t *testing.T, b []byte, most int, want api.Errno) {
	t.Helper()
	check(t, b, most, nil, want)
}

// checkModel asks for what the model tells.
func checkModel(t *testing.T, b []byte, most int) api.Errno {
	t.Helper()
	want, wantE := readByWords(b, most)
	if l, e := members(t, b, most); !sameMembers(l, want) || e != wantE {
		t.Errorf("Read(% x (%d), %d) = %v, %v, want %v, %v", cut(b), len(b), most, brief(l), e, brief(want), wantE)
	}
	return wantE
}

// fromHex tells bytes that are given to the base 16, with blanks between them.
func fromHex(s string) []byte {
	b, err := hex.DecodeString(strings.ReplaceAll(s, " ", ""))
	if err != nil {
		panic(err)
	}
	return b
}

// header is what is laid ahead of a packed text: the flags tell which of the others are; sum is xored into the header's sum.
type header struct {
	flags               byte
	time                uint32
	extra, name, remark string
	sum                 uint16
}

func (h header) bytes() []byte {
	b := binary.LittleEndian.AppendUint32([]byte{0x1f, 0x8b, 8, h.flags}, h.time)
	b = append(b, 0, 3)
	if h.flags&4 != 0 {
		b = binary.LittleEndian.AppendUint16(b, uint16(len(h.extra)))
		b = append(b, h.extra...)
	}
	if h.flags&8 != 0 {
		b = append(append(b, h.name...), 0)
	}
	if h.flags&16 != 0 {
		b = append(append(b, h.remark...), 0)
	}
	if h.flags&2 != 0 {
		b = binary.LittleEndian.AppendUint16(b, uint16(crc32.ChecksumIEEE(b))^h.sum)
	}
	return b
}

// letterA is the packed text "a", and what stands behind it.
const letterA = "\x4b\x04\x00\x43\xbe\xb7\xe8\x01\x00\x00\x00"

// with tells a member of the header, with the text "a".
func (h header) with() []byte { return append(h.bytes(), letterA...) }

// a tells the member with the text "a".
func a(name string, time int) gzip.Member {
	return gzip.Member{Name: name, Time: time, Data: []byte("a")}
}

func long(n int) string { return strings.Repeat("n", n) }

// text tells a text of pieces that stood ahead and of new bytes.
func text(r *rand.Rand, size int) []byte {
	letters := 1 + r.Intn(256)
	b := make([]byte, 0, size)
	for len(b) < size {
		if len(b) == 0 || r.Intn(3) == 0 {
			b = append(b, byte(r.Intn(letters)))
			continue
		}
		from := r.Intn(len(b))
		b = append(b, b[from:min(len(b), from+1+r.Intn(40))]...)
	}
	return b[:size]
}

// someMember tells a member of any name, time and text.
func someMember(r *rand.Rand, most int) gzip.Member {
	name := make([]byte, []int{0, 0, 1, r.Intn(20), r.Intn(256), 255}[r.Intn(6)])
	for i := range name {
		name[i] = byte(1 + r.Intn(255))
	}
	times := []int{0, 1, 1<<31 - 1, 1 << 31, 1<<32 - 1, r.Intn(1 << 32)}
	return gzip.Member{Name: string(name), Time: times[r.Intn(len(times))], Data: text(r, r.Intn(1<<r.Intn(most)))}
}

func someMembers(r *rand.Rand, count, most int) []gzip.Member {
	l := make([]gzip.Member, count)
	for i := range l {
		l[i] = someMember(r, most)
	}
	return l
}

// size tells how many bytes come out of members.
func size(l []gzip.Member) int {
	n := 0
	for _, m := range l {
		n += len(m.Data)
	}
	return n
}

func TestExamples(t *testing.T) {
	b := checkMake(t, []gzip.Member{{Data: []byte("a")}}, 9, 0)
	if !bytes.Equal(b, fromHex("1f 8b 08 00  00 00 00 00 00 ff  4b 04 00  43 be b7 e8  01 00 00 00")) {
		t.Errorf("% x", b)
	}
	checkTells(t, b, a("", 0))
	checkFails(t, b, 0, api.ErrBig)
	checkFails(t, nil, 9, api.ErrEnd)
	checkFails(t, []byte{}, 9, api.ErrEnd)
	for more := range 256 {
		checkFails(t, append(slices.Clone(b), byte(more)), 9, api.ErrEnd)
	}
	b[2] = 2
	checkFails(t, b, 9, api.ErrKind)
}

func TestP9_1Name(t *testing.T) {
	for _, n := range []int{0, 1, 2, 254, 255} {
		if !gzip.Name(long(n)) {
			t.Errorf("a name of %d bytes is none", n)
		}
		for at := range n {
			b := []byte(long(n))
			b[at] = 0
			if gzip.Name(string(b)) {
				t.Errorf("%q is a name", b)
			}
		}
	}
	for _, n := range []int{256, 257, 511, 512, 65536, 65536 + 255} {
		if gzip.Name(long(n)) {
			t.Errorf("%d bytes are a name", n)
		}
	}
	for x := range 256 {
		if got := gzip.Name(string([]byte{byte(x)})); got != (x != 0) {
			t.Errorf("the byte %d: %v", x, got)
		}
	}
	for _, s := range []string{"a/b", "..", "/", " ", "\n", "\xff\xfe", "ä", strings.Repeat("ä", 127), "0"} {
		if !gzip.Name(s) {
			t.Errorf("%q is none", s)
		}
	}
	for _, s := range []string{strings.Repeat("ä", 128), "\x00", "a\x00", "\x00a", long(255) + "\x00"} { // bytes count, not runes
		if gzip.Name(s) {
			t.Errorf("%q is one", s)
		}
	}
}

// P9.2: the bytes, written out by hand.
func TestP9_2Bytes(t *testing.T) {
	for _, x := range []struct {
		l    []gzip.Member
		kind int
		want string
	}{
		{[]gzip.Member{{}}, deflate.Best, "1f8b0800 00000000 00ff 0300 00000000 00000000"},
		{[]gzip.Member{{Data: []byte{}}}, deflate.Stored, "1f8b0800 00000000 00ff 010000ffff 00000000 00000000"},
		{[]gzip.Member{a("n", 5)}, deflate.Stored, "1f8b0808 05000000 00ff 6e00 010100feff61 43beb7e8 01000000"},
		{[]gzip.Member{a("", 1)}, deflate.Fixed, "1f8b0800 01000000 00ff 4b0400 43beb7e8 01000000"},
		{[]gzip.Member{a("ab", 0x01020304)}, deflate.Best, "1f8b0808 04030201 00ff 616200 4b0400 43beb7e8 01000000"},
		{[]gzip.Member{a("\xff\x01", 1<<32-1)}, deflate.Best, "1f8b0808 ffffffff 00ff ff0100 4b0400 43beb7e8 01000000"},
		{[]gzip.Member{a("", 1<<31)}, deflate.Best, "1f8b0800 00000080 00ff 4b0400 43beb7e8 01000000"},
		{[]gzip.Member{a("x", 2), {}, a("", 3)}, deflate.Best, "1f8b0808 02000000 00ff 7800 4b0400 43beb7e8 01000000" +
			"1f8b0800 00000000 00ff 0300 00000000 00000000" + "1f8b0800 03000000 00ff 4b0400 43beb7e8 01000000"},
		{[]gzip.Member{{Data: []byte("123456789")}}, deflate.Stored, "1f8b0800 00000000 00ff 010900f6ff 313233343536373839 2639f4cb 09000000"},
	} {
		if b := checkMake(t, x.l, 65535, x.kind); !bytes.Equal(b, fromHex(x.want)) {
			t.Errorf("Make(%v, 65535, %d) = % x, want %s", brief(x.l), x.kind, b, x.want)
		}
	}
	if b := checkMake(t, []gzip.Member{{Data: []byte("abc")}}, 2, deflate.Stored); !bytes.Equal(b, fromHex("1f8b0800 00000000 00ff 000200fdff6162 010100feff63 c2412435 03000000")) {
		t.Errorf("two blocks: % x", b)
	}
}

// P9.2: lengths of each of their bytes.
func TestP9_2Lengths(t *testing.T) {
	for _, n := range []int{0, 1, 255, 256, 257, 65535, 65536, 65537, 1 << 24, 1<<24 + 1} {
		b := checkMake(t, []gzip.Member{{Data: make([]byte, n)}}, 65535, deflate.Stored)
		if got := int(binary.LittleEndian.Uint32(b[len(b)-4:])); got != n {
			t.Errorf("of %d bytes %d are told", n, got)
		}
	}
}

func TestP9_2WrongArguments(t *testing.T) {
	for _, l := range [][]gzip.Member{nil, {}} {
		for _, kind := range []int{-1, 0, 1, 2, 3, 4} {
			checkMakeFails(t, l, 9, kind, api.ErrArg)
		}
	}
	for _, x := range []struct {
		m    gzip.Member
		want api.Errno
	}{
		{a("", 0), api.OK}, {a(long(1), 0), api.OK}, {a(long(254), 0), api.OK}, {a(long(255), 0), api.OK}, {a(long(256), 0), api.ErrArg}, {a(long(100000), 0), api.ErrArg},
		{a("\x00", 0), api.ErrArg}, {a("a\x00", 0), api.ErrArg}, {a("\x00a", 0), api.ErrArg}, {a("a\x00b", 0), api.ErrArg}, {a(long(254)+"\x00", 0), api.ErrArg},
		{a("", 1), api.OK}, {a("", 1<<32-2), api.OK}, {a("", 1<<32-1), api.OK}, {a("", 1<<32), api.ErrArg}, {a("", 1<<32+1), api.ErrArg}, {a("", 1<<33), api.ErrArg}, {a("", 1<<40), api.ErrArg},
		{a("", -1), api.ErrArg}, {a("", -1<<32), api.ErrArg}, {a("", -1<<32+1), api.ErrArg}, {a("", math.MinInt), api.ErrArg}, {a("", math.MaxInt), api.ErrArg},
		{a("n", -1), api.ErrArg}, {a("n", 1<<32), api.ErrArg},
	} {
		for _, l := range [][]gzip.Member{{x.m}, {x.m, a("n", 1)}, {a("n", 1), x.m}, {a("", 1), x.m, a("n", 0)}} {
			b, e := made(t, l, 9, deflate.Best)
			if e != x.want {
				t.Errorf("Make(%v) = % x, %v, want %v", brief(l), cut(b), e, x.want)
			}
			checkMake(t, l, 9, deflate.Best)
		}
	}
}

// P9.2: block and kind that deflate.Deflate refuses, and the greatest and least that it takes.
func TestP9_2BlocksAndKinds(t *testing.T) {
	some := []gzip.Member{a("n", 1), {}, {Data: []byte("abcabcabc")}}
	for _, block := range []int{math.MinInt, -65535, -1, 0, 1, 2, 9, 65534, 65535, 65536, 65537, 1 << 16 << 16, 1<<32 + 1, math.MaxInt} {
		for _, kind := range []int{math.MinInt, -1, 0, 1, 2, 3, 4, 256, 1 << 32, math.MaxInt} {
			_, want := deflate.Deflate([]byte("a"), block, kind)
			for _, l := range [][]gzip.Member{some, some[:1], some[1:2]} {
				if _, e := made(t, l, block, kind); e != want {
					t.Errorf("Make(%v, %d, %d): %v, want %v", brief(l), block, kind, e, want)
				}
				checkMake(t, l, block, kind)
			}
		}
	}
}

// P9.2: a member with one byte more than may be, and the errors' order.
func TestP9_2TooBig(t *testing.T) {
	big := gzip.Member{Name: "big", Time: 1, Data: make([]byte, api.MaxBytes+1)}
	if b, e := gzip.Make([]gzip.Member{big}, 65535, deflate.Stored); len(b) != 0 || e != api.ErrBig { // the way that ends soonest if it is packed
		t.Fatalf("%d bytes, %v", len(b), e)
	}
	for _, kind := range allKinds {
		checkMakeFails(t, []gzip.Member{big}, 9, kind, api.ErrBig)
		checkMakeFails(t, []gzip.Member{big, a("", 0)}, 9, kind, api.ErrBig)
		checkMakeFails(t, []gzip.Member{a("", 0), big}, 9, kind, api.ErrBig)
		checkMakeFails(t, []gzip.Member{a("", 0), big, a("", 0)}, 9, kind, api.ErrBig)
	}
	for _, wrong := range []gzip.Member{a(long(256), 0), a("\x00", 0), a("", -1), a("", 1<<32)} {
		checkMakeFails(t, []gzip.Member{big, wrong}, 9, deflate.Best, api.ErrArg)
		checkMakeFails(t, []gzip.Member{wrong, big}, 9, deflate.Best, api.ErrArg)
		checkMakeFails(t, []gzip.Member{big, a("", 0), wrong, big}, 9, deflate.Best, api.ErrArg)
		wrong.Data = big.Data
		checkMakeFails(t, []gzip.Member{wrong}, 9, deflate.Best, api.ErrArg)
	}
	for _, x := range [][2]int{{0, 0}, {-1, 0}, {65536, 0}, {9, -1}, {9, 4}} {
		checkMakeFails(t, []gzip.Member{big}, x[0], x[1], api.ErrArg)
		checkMakeFails(t, []gzip.Member{a("", 0), big}, x[0], x[1], api.ErrArg)
	}
}

// P9.2, P9.3: a member of just as many bytes as may be, and one of a byte behind it.
func TestMaxBytes(t *testing.T) {
	data := make([]byte, api.MaxBytes)
	data[0], data[len(data)-1] = 'x', 'y'
	b, e := gzip.Make([]gzip.Member{{Data: data}}, 65535, deflate.Stored)
	if e != api.OK {
		t.Fatal(e)
	}
	if !bytes.Equal(b[len(b)-8:], tail(data)) {
		t.Errorf("% x behind MaxBytes", b[len(b)-8:])
	}
	l, e := gzip.Read(b, api.MaxBytes)
	if len(l) != 1 || !bytes.Equal(l[0].Data, data) || e != api.OK {
		t.Errorf("%d members, %v", len(l), e)
	}
	b = append(b, header{}.with()...)
	if l, e := gzip.Read(b, api.MaxBytes); len(l) != 0 || e != api.ErrBig {
		t.Errorf("with a byte more: %d members, %v", len(l), e)
	}
}

// P9.2, P9.5: members of many texts, in blocks of many sizes, of each kind, told by Read and by others.
func TestP9_5ManyMembers(t *testing.T) {
	r := rand.New(rand.NewSource(9))
	blocks := []int{1, 2, 3, 7, 100, 1000, 65535}
	for range 250 {
		l := someMembers(r, 1+r.Intn(6), 12)
		block := blocks[r.Intn(len(blocks))]
		kind := allKinds[r.Intn(len(allKinds))]
		b := checkMake(t, l, block, kind)
		checkTells(t, b, l...)
		check(t, b, size(l), l, api.OK)
		if size(l) > 0 {
			checkFails(t, b, size(l)-1, api.ErrBig)
		}
		if others := readByLibrary(t, b); !sameMembers(others, l) {
			t.Errorf("others tell of Make(%v, %d, %d): %v", brief(l), block, kind, brief(others))
		}
		next := someMembers(r, 1+r.Intn(4), 9)
		c := checkMake(t, next, blocks[r.Intn(len(blocks))], allKinds[r.Intn(len(allKinds))])
		checkTells(t, slices.Concat(b, c), slices.Concat(l, next)...)
		checkTells(t, slices.Concat(c, b, c), slices.Concat(next, l, next)...)
	}
}

// P9.5: the same members of each kind, in each size of block up to all bytes and beyond.
func TestP9_5EachBlockAndKind(t *testing.T) {
	r := rand.New(rand.NewSource(5))
	l := []gzip.Member{{}, {Name: "one", Time: 1, Data: text(r, 60)}, {Name: long(255), Time: 1<<32 - 1, Data: text(r, 61)}, {Data: []byte("b")}}
	for block := 1; block <= 63; block++ {
		for _, kind := range allKinds {
			b := checkMake(t, l, block, kind)
			checkTells(t, b, l...)
			if others := readByLibrary(t, b); !sameMembers(others, l) {
				t.Errorf("others tell in blocks of %d, of kind %d: %v", block, kind, brief(others))
			}
		}
	}
	for n := range 300 { // each length of a text, so that the packed bytes end at each place
		m := gzip.Member{Name: long(n % 256), Time: n, Data: text(r, n)}
		for _, kind := range allKinds {
			checkTells(t, checkMake(t, []gzip.Member{m, a("", n)}, 50, kind), m, a("", n))
		}
	}
}

// P9.5: texts that are longer than what is read at once.
func TestP9_5LongTexts(t *testing.T) {
	r := rand.New(rand.NewSource(7))
	noise := make([]byte, 300000)
	r.Read(noise)
	l := []gzip.Member{{Name: "a", Data: noise}, {Data: text(r, 500000)}, {Name: "z", Time: 9, Data: make([]byte, 1<<20)}, {Data: noise[:5000]}}
	for _, kind := range allKinds {
		b := checkMake(t, l, 65535, kind)
		checkTells(t, b, l...)
		check(t, b, size(l), l, api.OK)
		checkFails(t, b, size(l)-1, api.ErrBig)
		if others := readByLibrary(t, b); !sameMembers(others, l) {
			t.Errorf("others tell of kind %d: %v", kind, brief(others))
		}
	}
}

// P9.5: as many members as there are, each call ends soon.
func TestP9_5VeryManyMembers(t *testing.T) {
	var l []gzip.Member
	for i := range 9000 {
		l = append(l, gzip.Member{Time: i, Data: []byte(long(i % 3))})
	}
	b := checkMake(t, l, 9, deflate.Best)
	check(t, b, 9000, l, api.OK)
	checkFails(t, b, 8999, api.ErrBig)
	checkFails(t, b[:len(b)-1], api.MaxBytes, api.ErrEnd)
}

func TestP9_3Most(t *testing.T) {
	one := header{}.with()
	none := checkMake(t, []gzip.Member{{}}, 9, deflate.Best)
	wrong := header{flags: 0xff}.bytes()
	for _, most := range []int{-1, -2, math.MinInt, math.MinInt32, api.MaxBytes + 1, api.MaxBytes + 2, math.MaxInt32, math.MaxInt, 1 << 32} {
		for _, b := range [][]byte{nil, {}, {1}, one, none, wrong, append(slices.Clone(one), 0)} { // ahead of all that may be wrong with the bytes
			checkFails(t, b, most, api.ErrArg)
		}
	}
	for _, most := range []int{0, 1, 2, api.MaxBytes - 1, api.MaxBytes} {
		check(t, none, most, []gzip.Member{{}}, api.OK)
		checkFails(t, nil, most, api.ErrEnd)
		checkFails(t, wrong, most, api.ErrKind)
		if most > 0 {
			check(t, one, most, []gzip.Member{a("", 0)}, api.OK)
		}
	}
	checkFails(t, one, 0, api.ErrBig)
}

// P9.3: what came out of the members ahead is taken off most.
func TestP9_3MostOfAllMembers(t *testing.T) {
	l := []gzip.Member{{Data: []byte("abc")}, {}, {Data: []byte("de")}, {Data: []byte("f")}, {}}
	for _, kind := range allKinds {
		b := checkMake(t, l, 2, kind)
		for most := range 12 {
			if most < 6 {
				checkFails(t, b, most, api.ErrBig)
				continue
			}
			check(t, b, most, l, api.OK)
		}
	}
	b := checkMake(t, l[:3], 9, deflate.Best)
	wrong := append(slices.Clone(b), header{flags: 32}.with()...)
	checkFails(t, wrong, 4, api.ErrBig) // a member that is too much goes ahead of what is behind it
	checkFails(t, wrong, 5, api.ErrKind)
	checkFails(t, append(slices.Clone(b), header{sum: 1, flags: 2}.with()...), 5, api.ErrSum) // and what is wrong with a header ahead of its text
	checkFails(t, append(slices.Clone(b), header{}.with()...), 5, api.ErrBig)
}

// P9.3: headers of each length up to a whole one.
func TestP9_3ShortHeaders(t *testing.T) {
	good := header{time: 7}.with()
	for n := range 10 {
		checkFails(t, good[:n], 9, api.ErrEnd)
		checkFails(t, append(slices.Clone(good), good[:max(n, 1)]...), 9, api.ErrEnd)
		checkFails(t, make([]byte, n), 9, api.ErrEnd)
		checkFails(t, bytes.Repeat([]byte{0xff}, n), 9, api.ErrEnd)
	}
	checkFails(t, good[:10], 9, api.ErrEnd)
	checkFails(t, make([]byte, 10), 9, api.ErrForm)
	checkFails(t, bytes.Repeat([]byte{0xff}, 10), 9, api.ErrForm)
	checkFails(t, append(fromHex("1f8b"), make([]byte, 7)...), 9, api.ErrEnd)
	checkFails(t, append(fromHex("1f8b"), make([]byte, 8)...), 9, api.ErrKind)
	checkFails(t, append(fromHex("1f8b08ff"), make([]byte, 5)...), 9, api.ErrEnd)
	checkFails(t, append(fromHex("1f8b08ff"), make([]byte, 6)...), 9, api.ErrKind)
}

// P9.3: each of the first ten bytes as each byte.
func TestP9_3FirstBytes(t *testing.T) {
	for at := range 10 {
		for x := range 256 {
			b := header{time: 0x04030201}.with()
			same := b[at] == byte(x)
			b[at] = byte(x)
			both := append(header{}.with(), b...)
			switch {
			case at < 2 && !same:
				checkFails(t, b, 9, api.ErrForm)
				checkFails(t, both, 9, api.ErrForm)
			case at == 2 && !same, at == 3 && x >= 32:
				checkFails(t, b, 9, api.ErrKind)
				checkFails(t, both, 9, api.ErrKind)
			case at == 3:
				checkModel(t, b, 9)
			default:
				time := int(b[4]) | int(b[5])<<8 | int(b[6])<<16 | int(b[7])<<24
				checkTells(t, b, a("", time))
				checkTells(t, both, a("", 0), a("", time))
			}
		}
	}
	for _, time := range []uint32{0, 1, 255, 256, 1<<31 - 1, 1 << 31, 1<<32 - 1} {
		checkTells(t, header{time: time}.with(), a("", int(time)))
	}
}

// P9.3: flags in all ways together, with what they tell of, short and long.
func TestP9_3Flags(t *testing.T) {
	for flags := range 256 {
		for _, h := range []header{{}, {extra: "x", name: "n", remark: "r"}, {extra: "\x00\x1f\x8b\x00", name: long(255), remark: long(700)}, {extra: long(65535), name: "\xff\x01"}} {
			h.flags, h.time = byte(flags), 5
			want := a("", 5)
			if flags&8 != 0 {
				want.Name = h.name
			}
			b := h.with()
			if flags >= 32 {
				checkFails(t, b, 9, api.ErrKind)
				continue
			}
			checkTells(t, b, want)
			checkTells(t, slices.Concat(b, b, header{}.with()), want, want, a("", 0))
			for n := 0; n < len(b)-len(letterA); n += 1 + n/300 { // each cut at first, then fewer of them
				checkFails(t, b[:n], 9, api.ErrEnd)
			}
		}
	}
}

// P9.3: bytes that are passed over, as many as there are, and one more.
func TestP9_3Extra(t *testing.T) {
	for _, n := range []int{0, 1, 2, 10, 255, 256, 257, 65534, 65535} {
		for _, fill := range []string{"\x00", "\xff", "\x1f"} {
			h := header{flags: 4, extra: strings.Repeat(fill, n)}
			checkTells(t, h.with(), a("", 0))
			checkFails(t, h.bytes(), 9, api.ErrEnd)
			if n > 0 {
				checkFails(t, h.bytes()[:12+n-1], 9, api.ErrEnd)
			}
		}
	}
	for left := range 20 {
		for n := range 24 {
			b := append(header{flags: 4}.bytes()[:10], byte(n), 0)
			checkModel(t, append(b, make([]byte, left)...), 9)
		}
	}
	b := header{flags: 4}.bytes()[:10]
	for _, behind := range []string{"", "\x00", "\x01", "\x01\x00", "\xff\xff", "\xff\xff" + long(65534), "\x00\x01" + long(255)} {
		checkFails(t, append(slices.Clone(b), behind...), 9, api.ErrEnd)
	}
	checkTells(t, slices.Concat(b, []byte("\x00\x01"+long(256)), []byte(letterA)), a("", 0)) // the lowest byte stands first
	checkTells(t, slices.Concat(b, []byte("\x01\x00n"), []byte(letterA)), a("", 0))
}

// P9.3: names and remarks, short, long, and those that never end.
func TestP9_3NamesAndRemarks(t *testing.T) {
	for _, n := range []int{0, 1, 2, 254, 255, 256, 257, 511, 512, 513, 1000, 65536, 100000} {
		named, remarked := header{flags: 8, name: long(n)}, header{flags: 16, remark: long(n)}
		if n <= 255 {
			checkTells(t, named.with(), a(long(n), 0))
			checkTells(t, header{flags: 8 + 16, name: long(n), remark: long(300)}.with(), a(long(n), 0))
		} else {
			checkFails(t, named.with(), 9, api.ErrForm)
			checkFails(t, header{flags: 31, name: long(n)}.with(), 9, api.ErrForm)
			checkFails(t, append(header{}.with(), named.with()...), 9, api.ErrForm)
		}
		checkTells(t, remarked.with(), a("", 0))
		checkTells(t, header{flags: 8 + 16, name: "n", remark: long(n)}.with(), a("n", 0))
		whole := len(named.bytes())
		checkFails(t, named.bytes()[:whole-1], 9, api.ErrEnd) // it never ends, however long it is
		checkFails(t, remarked.bytes()[:whole-1], 9, api.ErrEnd)
		checkFails(t, header{flags: 8 + 16, remark: long(n)}.bytes()[:whole], 9, api.ErrEnd)
	}
	for x := 1; x < 256; x++ {
		name := string([]byte{byte(x), 'n', byte(x)})
		checkTells(t, header{flags: 8, name: name}.with(), a(name, 0))
	}
}

// P9.3: the header's sum is of all bytes ahead of it in its member, and just the lowest 16 bits.
func TestP9_3HeaderSum(t *testing.T) {
	for flags := range 32 {
		h := header{flags: byte(flags) | 2, time: 77, extra: "extra", name: "name", remark: "remark"}
		want := a("", 77)
		if flags&8 != 0 {
			want.Name = "name"
		}
		checkTells(t, h.with(), want)
		checkTells(t, append(header{flags: 8, name: "other"}.with(), h.with()...), a("other", 0), want)
		for bit := range 16 {
			h.sum = 1 << bit
			checkFails(t, h.with(), 9, api.ErrSum)
			checkFails(t, append(header{}.with(), h.with()...), 9, api.ErrSum)
		}
	}
	h := header{flags: 2}
	b := h.bytes()
	checkFails(t, b[:10], 9, api.ErrEnd)
	checkFails(t, b[:11], 9, api.ErrEnd)
	high := crc32.ChecksumIEEE(b[:10]) >> 16
	checkFails(t, slices.Concat(b[:10], binary.LittleEndian.AppendUint16(nil, uint16(high)), []byte(letterA)), 9, api.ErrSum)
	checkFails(t, slices.Concat(b[:10], []byte{b[11], b[10]}, []byte(letterA)), 9, api.ErrSum) // the highest byte first
	for at := 4; at < 10; at++ {                                                               // it is of the time, too, and of what is not looked at
		b := h.with()
		b[at]++
		checkFails(t, b, 9, api.ErrSum)
	}
	hint := header{flags: 3}.with()
	hint[3] = 2
	checkFails(t, hint, 9, api.ErrSum)
}

// P9.3: what stands behind the packed text: seven bytes, eight, each bit of them turned.
func TestP9_3Tail(t *testing.T) {
	for _, kind := range allKinds {
		for _, m := range []gzip.Member{a("", 0), {}, {Name: "n", Data: text(rand.New(rand.NewSource(3)), 1000)}} {
			b := checkMake(t, []gzip.Member{m}, 300, kind)
			for lacking := 1; lacking <= 8; lacking++ {
				short := slices.Clone(b[:len(b)-lacking])
				checkFails(t, short, api.MaxBytes, api.ErrEnd)
				for i := len(b) - 8; i < len(short); i++ { // even where those that are there are wrong
					short[i] ^= 0xff
				}
				checkFails(t, short, api.MaxBytes, api.ErrEnd)
			}
			for bit := range 64 {
				c := slices.Clone(b)
				c[len(b)-8+bit/8] ^= 1 << (bit % 8)
				checkFails(t, c, api.MaxBytes, api.ErrSum)
				checkFails(t, append(header{}.with(), c...), api.MaxBytes, api.ErrSum)
				checkFails(t, append(c, header{}.with()...), api.MaxBytes, api.ErrSum)
			}
		}
	}
	checkFails(t, slices.Concat(header{}.bytes(), fromHex("4b0400 e8b7be43 00000001")), 9, api.ErrSum) // the highest first
	checkFails(t, slices.Concat(header{}.bytes(), fromHex("4b0400 01000000 43beb7e8")), 9, api.ErrSum) // in the other order
	checkFails(t, slices.Concat(header{}.bytes(), fromHex("0300 43beb7e8 01000000")), 9, api.ErrSum)   // of another text
}

// P9.3: what is behind a member is another one, whatever it is.
func TestP9_3Behind(t *testing.T) {
	one := header{flags: 8, name: "n"}.with()
	for _, x := range []struct {
		behind []byte
		want   api.Errno
	}{
		{[]byte{0}, api.ErrEnd}, {[]byte{0x1f}, api.ErrEnd}, {make([]byte, 9), api.ErrEnd}, {make([]byte, 10), api.ErrForm}, {make([]byte, 512), api.ErrForm},
		{one[:len(one)-1], api.ErrEnd}, {one[1:], api.ErrForm}, {one[:10], api.ErrEnd},
		{header{flags: 64}.with(), api.ErrKind}, {append(slices.Clone(one), 0), api.ErrEnd},
	} {
		checkFails(t, append(slices.Clone(one), x.behind...), 9, x.want)
		checkFails(t, slices.Concat(one, one, x.behind), 9, x.want)
	}
	checkTells(t, slices.Concat(one, one), a("n", 0), a("n", 0))
	checkTells(t, bytes.Repeat(one, 9), slices.Repeat([]gzip.Member{a("n", 0)}, 9)...)
}

// P9.3: what inflate tells of the packed text.
func TestP9_3InflateErrors(t *testing.T) {
	for _, x := range []struct {
		packed string
		want   api.Errno
	}{
		{"", api.ErrEnd}, {"4b", api.ErrEnd}, {"4b 04", api.ErrEnd}, {"02", api.ErrEnd}, {"4a 04 00", api.ErrEnd},
		{"07", api.ErrKind},
		{"01 01 00 fd ff 61", api.ErrForm},
		{"01 01 00 fe ff", api.ErrEnd},
		{"05 00 00 00", api.ErrCode},
		{"03 02 00", api.ErrBack},
	} {
		b := append(header{flags: 8, name: "n"}.bytes(), fromHex(x.packed)...)
		checkFails(t, b, 9, x.want)
		checkFails(t, append(header{}.with(), b...), 9, x.want)
		if x.want != api.ErrEnd { // ahead of what is behind it
			checkFails(t, append(b, 1, 2, 3, 4, 5, 6, 7, 8), 9, x.want)
			checkFails(t, append(b, 1, 2, 3, 4, 5, 6, 7, 8, 9, 10), 9, x.want)
		}
	}
}

// P9.3: where two errors fit, the one that is named first is told.
func TestP9_3ErrorsInOrder(t *testing.T) {
	long256 := long(256)
	wrongSum := "\x4b\x04\x00\x00\x00\x00\x00\x01\x00\x00\x00"
	for _, x := range []struct {
		what   string
		b      []byte
		most   int
		first  api.Errno
		behind string
	}{
		{"most, ten bytes", nil, -1, api.ErrArg, ""},
		{"ten bytes, the first two", []byte("\x00\x00\x00\xff\x00\x00\x00\x00\x00"), 9, api.ErrEnd, ""},
		{"the first two, the third", []byte("\x1f\x8c\x00\x00\x00\x00\x00\x00\x00\x00"), 9, api.ErrForm, letterA},
		{"the first two, the flags", []byte("\x1e\x8b\x08\xff\x00\x00\x00\x00\x00\x00"), 9, api.ErrForm, letterA},
		{"the third, bytes that lack", []byte("\x1f\x8b\x07\x04\x00\x00\x00\x00\x00\x00\x09"), 9, api.ErrKind, ""},
		{"the flags, bytes that lack", []byte("\x1f\x8b\x08\x24\x00\x00\x00\x00\x00\x00\x09"), 9, api.ErrKind, ""},
		{"the flags, the header's sum", header{flags: 0x82, sum: 1}.bytes(), 9, api.ErrKind, letterA},
		{"the flags, the name", header{flags: 0x48, name: long256}.bytes(), 9, api.ErrKind, letterA},
		{"the flags, the text", header{flags: 0x20}.bytes(), 9, api.ErrKind, "\x07"},
		{"the header's sum, the name", header{flags: 10, name: long256, sum: 1}.bytes(), 9, api.ErrSum, letterA},
		{"the header's sum, the text", header{flags: 2, sum: 1}.bytes(), 9, api.ErrSum, "\x07"},
		{"the header's sum, a text that ends", header{flags: 2, sum: 1}.bytes(), 9, api.ErrSum, ""},
		{"the header's sum, most", header{flags: 2, sum: 1}.bytes(), 0, api.ErrSum, letterA},
		{"a remark that never ends, the name", header{flags: 24, name: long256}.bytes()[:10+257], 9, api.ErrEnd, ""},
		{"a remark of one byte that never ends, the name", header{flags: 24, name: long256, remark: "r"}.bytes()[:10+258], 9, api.ErrEnd, ""},
		{"a sum that lacks, the name", header{flags: 10, name: long256}.bytes()[:10+257], 9, api.ErrEnd, ""},
		{"a sum of one byte, the name", header{flags: 10, name: long256}.bytes()[:10+258], 9, api.ErrEnd, ""},
		{"a name that never ends, its length", header{flags: 8, name: long256}.bytes()[:10+256], 9, api.ErrEnd, ""},
		{"the name, the text's kind", header{flags: 8, name: long256}.bytes(), 9, api.ErrForm, "\x07"},
		{"the name, a text that ends", header{flags: 8, name: long256}.bytes(), 9, api.ErrForm, ""},
		{"the name, most", header{flags: 8, name: long256}.bytes(), 0, api.ErrForm, letterA},
		{"the name, the sum", header{flags: 8, name: long256}.bytes(), 9, api.ErrForm, wrongSum},
		{"most, eight bytes", header{}.bytes(), 0, api.ErrBig, letterA[:9]},
		{"most, the sum", header{}.bytes(), 0, api.ErrBig, wrongSum},
		{"the text, eight bytes", header{}.bytes(), 9, api.ErrKind, "\x07"},
		{"the text, the sum", header{}.bytes(), 9, api.ErrBack, "\x03\x02\x00\x00\x00\x00\x00\x00\x00\x00\x00"},
		{"eight bytes, the sum", header{}.bytes(), 9, api.ErrEnd, wrongSum[:10]},
		{"the sum, a byte behind", header{}.bytes(), 9, api.ErrSum, wrongSum + "\x00"},
		{"the sum, another member", header{}.bytes(), 9, api.ErrSum, wrongSum + "0123456789"},
	} {
		b := append(slices.Clone(x.b), x.behind...)
		if l, e := gzip.Read(b, x.most); len(l) != 0 || e != x.first {
			t.Errorf("%s: %v, %v, want %v", x.what, brief(l), e, x.first)
		}
		checkFails(t, b, x.most, x.first)
		if x.most > 0 {
			checkFails(t, append(header{}.with(), b...), x.most, x.first)
		}
	}
}

// samples are members of all kinds of headers and blocks.
func samples() [][]byte {
	r := rand.New(rand.NewSource(4))
	var all [][]byte
	for flags := range 32 {
		h := header{flags: byte(flags), time: r.Uint32(), extra: "ex", name: "na", remark: "re"}
		all = append(all, h.with(), slices.Concat(h.with(), header{flags: byte(r.Intn(32)), name: "other"}.with()))
	}
	for _, kind := range allKinds {
		for count := 1; count < 4; count++ {
			b, _ := gzip.Make(someMembers(r, count, 7), 1+r.Intn(40), kind)
			all = append(all, b)
		}
	}
	return all
}

// W2: bytes that are cut anywhere, turned anywhere, left out or laid between.
func TestP9_3BytesThatAreChanged(t *testing.T) {
	for _, b := range samples() {
		if e := checkModel(t, b, api.MaxBytes); e != api.OK {
			t.Errorf("% x: %v", cut(b), e)
		}
		for at := range b {
			checkModel(t, b[:at], api.MaxBytes)
			checkModel(t, b[at:], api.MaxBytes)
			checkModel(t, slices.Concat(b[:at], b[at+1:]), api.MaxBytes)
			for _, x := range []byte{0, 0x1f, 0xff} {
				checkModel(t, slices.Concat(b[:at], []byte{x}, b[at:]), api.MaxBytes)
			}
			for bit := range 8 {
				c := slices.Clone(b)
				c[at] ^= 1 << bit
				checkModel(t, c, api.MaxBytes)
			}
		}
	}
}

// W2: any bytes, and changed ones with any most.
func TestP9_3AnyBytes(t *testing.T) {
	r := rand.New(rand.NewSource(2))
	all := samples()
	for range 20000 {
		b := make([]byte, r.Intn(40))
		r.Read(b)
		copy(b, "\x1f\x8b\x08"[:r.Intn(4)])
		if len(b) > 3 && r.Intn(2) == 0 {
			b[3] %= 32
		}
		checkModel(t, b, r.Intn(100))
	}
	for range 20000 {
		b := slices.Clone(all[r.Intn(len(all))])
		for range r.Intn(4) {
			b[r.Intn(len(b))] = byte(r.Intn(256))
		}
		b = append(b, all[r.Intn(len(all))]...)
		checkModel(t, b[:len(b)-r.Intn(2)*r.Intn(len(b))], r.Intn(300))
	}
}

// P9.3: members that others made.
func TestP9_3MembersOfOthers(t *testing.T) {
	r := rand.New(rand.NewSource(8))
	for range 100 {
		var all bytes.Buffer
		var want []gzip.Member
		for range 1 + r.Intn(3) {
			m := gzip.Member{Name: long(r.Intn(256)), Time: r.Intn(1 << 32), Data: text(r, r.Intn(1<<r.Intn(15)))}
			w, err := library.NewWriterLevel(&all, r.Intn(12)-2)
			if err != nil {
				t.Fatal(err)
			}
			w.Name, w.ModTime, w.OS = m.Name, time.Unix(int64(m.Time), 0), byte(r.Intn(256))
			if r.Intn(2) == 0 {
				w.Extra = text(r, r.Intn(1000))
			}
			if r.Intn(2) == 0 {
				w.Comment = long(r.Intn(400))
			}
			if _, err := io.Copy(w, bytes.NewReader(m.Data)); err != nil {
				t.Fatal(err)
			}
			if err := w.Close(); err != nil {
				t.Fatal(err)
			}
			want = append(want, m)
		}
		checkTells(t, all.Bytes(), want...)
		check(t, all.Bytes(), size(want), want, api.OK)
	}
}

func TestP9_4Text(t *testing.T) {
	l := []gzip.Member{{Name: "1", Data: []byte("one")}, {}, {Time: 3, Data: []byte("two")}, {Data: []byte("\x00")}}
	b := checkMake(t, l, 2, deflate.Best)
	for most := range 10 {
		s, e := gzip.Text(b, most)
		if most < 7 && (len(s) != 0 || e != api.ErrBig) || most >= 7 && (string(s) != "onetwo\x00" || e != api.OK) {
			t.Errorf("Text of %d: %q, %v", most, s, e)
		}
	}
	for _, x := range []struct {
		b    []byte
		most int
		want api.Errno
	}{
		{nil, 9, api.ErrEnd}, {b, -1, api.ErrArg}, {b, api.MaxBytes + 1, api.ErrArg}, {b[1:], 9, api.ErrForm}, {b[:len(b)-1], 9, api.ErrEnd},
		{header{flags: 32}.with(), 9, api.ErrKind}, {header{flags: 2, sum: 1}.with(), 9, api.ErrSum}, {append(slices.Clone(b), 0), 9, api.ErrEnd},
	} {
		if s, e := gzip.Text(x.b, x.most); len(s) != 0 || e != x.want {
			t.Errorf("Text(% x, %d) = %q, %v, want %v", cut(x.b), x.most, s, e, x.want)
		}
	}
	none := checkMake(t, []gzip.Member{{}, {}}, 2, deflate.Best)
	if s, e := gzip.Text(none, 0); len(s) != 0 || e != api.OK {
		t.Errorf("Text of nothing: %q, %v", s, e)
	}
}

// fill writes over a list and all the room behind it.
func fill(b []byte, x byte) {
	b = b[:cap(b)]
	for i := range b {
		b[i] = x
	}
}

// filled is whether a list, and all the room behind it, is one byte alone.
func filled(b []byte, x byte) bool {
	b = b[:cap(b)]
	return bytes.Count(b, []byte{x}) == len(b)
}

// Rule 4: what is told is memory of its own, its spare room too, and no two members share any.
func TestWhatIsToldIsNew(t *testing.T) {
	for _, kind := range allKinds {
		given := []gzip.Member{{Name: "n", Data: []byte("some text, some text")}, {Data: []byte("other")}, {}, {Data: []byte("some text")}}
		kept := roomy(given)
		b := checkMake(t, given, 9, kind)
		first := slices.Clone(b)
		again, _ := gzip.Make(given, 9, kind)
		fill(again, 0xee)
		if !sameMembers(given, kept) || !bytes.Equal(b, first) {
			t.Errorf("kind %d: what Make tells is part of what was handed in, or of another answer", kind)
		}
		for _, m := range given {
			fill(m.Data, 0xdd)
		}
		if !filled(again, 0xee) {
			t.Errorf("kind %d: what was handed in is part of what Make tells", kind)
		}
		l, _ := gzip.Read(b, 99)
		other, _ := gzip.Read(b, 99)
		all, _ := gzip.Text(b, 99)
		for i := range l {
			fill(l[i].Data, byte(i+1))
		}
		fill(all, 0xcc)
		if !bytes.Equal(b, first) || !sameMembers(other, kept) {
			t.Errorf("kind %d: what Read or Text tells is part of what was handed in, or of another answer", kind)
		}
		fill(b, 0xbb)
		for i := range l {
			if !filled(l[i].Data, byte(i+1)) {
				t.Errorf("kind %d: member %d shares memory", kind, i)
			}
		}
		if !filled(all, 0xcc) || l[0].Name != "n" {
			t.Errorf("kind %d: what was handed in is part of what Text or Read tells", kind)
		}
	}
}

// Rule 4: a text of one member alone, too, is memory of its own.
func TestTextOfOneMemberIsNew(t *testing.T) {
	for _, kind := range allKinds {
		b, _ := gzip.Make([]gzip.Member{a("", 0)}, 9, kind)
		first := slices.Clone(b)
		s, _ := gzip.Text(b, 9)
		fill(s, 0xcc)
		if !bytes.Equal(b, first) {
			t.Errorf("kind %d: what Text tells is part of what was handed in", kind)
		}
		fill(b, 0xbb)
		if !filled(s, 0xcc) {
			t.Errorf("kind %d: what was handed in is part of what Text tells", kind)
		}
	}
}

// Rule 4: members that are handed in may share memory, also with each other.
func TestMembersThatShare(t *testing.T) {
	shared := []byte("abcabcabc")
	l := []gzip.Member{{Data: shared}, {Data: shared[3:]}, {Data: shared[:3]}, {Data: shared}}
	b := checkMake(t, l, 2, deflate.Best)
	checkTells(t, b, l...)
	if string(shared) != "abcabcabc" {
		t.Errorf("%q", shared)
	}
}

// Rule 5: an answer hangs on nothing that was ahead of it, and calls may run side by side.
func TestNothingIsKept(t *testing.T) {
	r := rand.New(rand.NewSource(6))
	lists := make([][]gzip.Member, 16)
	for i := range lists {
		lists[i] = someMembers(r, 1+r.Intn(4), 10)
	}
	done := make(chan bool)
	for _, l := range lists {
		go func() {
			good := true
			for _, kind := range allKinds {
				b, e := gzip.Make(l, 100, kind)
				want, _ := makeByWords(l, 100, kind)
				gzip.Read(b[1:], api.MaxBytes)
				told, e2 := gzip.Read(b, api.MaxBytes)
				good = good && e == api.OK && e2 == api.OK && bytes.Equal(b, want) && sameMembers(told, l)
			}
			done <- good
		}()
	}
	for range lists {
		if !<-done {
			t.Error("calls side by side tell something else")
		}
	}
}
