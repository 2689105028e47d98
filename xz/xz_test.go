package xz_test

import (
	"bytes"
	"encoding/hex"
	"math"
	"math/rand"
	"slices"
	"testing"

	"hamper/api"
	"hamper/xz"
)

// checks are all kinds of checks.
var checks = []int{xz.None, xz.Crc32, xz.Crc64}

// text tells a text as bytes, with spare room that must stay as it is.
func text(s string) []byte { return append(make([]byte, 0, len(s)+9), s...) }

func unhex(s string) []byte {
	b, err := hex.DecodeString(s)
	if err != nil {
		panic(err)
	}
	return b
}

func randomText(r *rand.Rand, size, letters int) []byte {
	b := make([]byte, size)
	for i := range b {
		b[i] = byte(r.Intn(letters))
	}
	return b
}

// repeating tells a text of pieces that stood ahead and of new bytes.
func repeating(r *rand.Rand, size, letters int) []byte {
	b := randomText(r, min(size, 1), letters)
	for len(b) < size {
		if r.Intn(3) == 0 {
			b = append(b, randomText(r, 1+r.Intn(4), letters)...)
			continue
		}
		d := 1 + r.Intn(len(b))
		for range 1 + r.Intn(1<<r.Intn(9)) {
			b = append(b, b[len(b)-d])
		}
	}
	return b[:size]
}

// spoil makes bytes others, with their spare room: nobody may look at them any more.
func spoil(b []byte) {
	b = b[:cap(b)]
	for i := range b {
		b[i] ^= 0x55
	}
}

// unlike tells whether bytes, or their spare room, were changed.
func unlike(b, before []byte) bool { return !bytes.Equal(b[:cap(b)], before) }

// makes holds Make against the words, and tells what it made.
func makes(t *testing.T, b []byte, block, check int) []byte {
	t.Helper()
	before := slices.Clone(b[:cap(b)])
	have, e := xz.Make(b, block, check)
	want, wantError := modelMake(b, block, check)
	if e != wantError || !bytes.Equal(have, want) {
		t.Fatalf("Make(%.60q (%d), %d, %d) = % .60x (%d), error %d, want % .60x (%d), error %d", b, len(b), block, check, have, len(have), int(e), want, len(want), int(wantError))
	}
	spoil(have)
	if unlike(b, before) {
		t.Fatalf("Make(%.60q (%d), %d, %d): what was handed in is changed, or part of what is handed out", before, len(b), block, check)
	}
	return want
}

// reads holds Read against the words, and tells what it read.
func reads(t *testing.T, b []byte, most int) ([]byte, api.Errno) {
	t.Helper()
	before := slices.Clone(b[:cap(b)])
	have, e := xz.Read(b, most)
	want, wantError := modelRead(b, most)
	if e != wantError || !bytes.Equal(have, want) {
		t.Fatalf("Read(%x (%d), %d) = %.60q (%d), error %d, want %.60q (%d), error %d", b, len(b), most, have, len(have), int(e), want, len(want), int(wantError))
	}
	spoil(have)
	if unlike(b, before) {
		t.Fatalf("Read(%x (%d), %d): what was handed in is changed, or part of what is handed out", before, len(b), most)
	}
	return want, e
}

// readTells asks that Read tells just that.
func readTells(t *testing.T, b []byte, most int, want string) {
	t.Helper()
	if have, e := xz.Read(b, most); e != api.OK || string(have) != want {
		t.Errorf("Read(% .200x (%d), %d) = %.60q (%d), error %d, want %.60q (%d)", b, len(b), most, have, len(have), int(e), want, len(want))
	}
}

// readFails asks that Read tells just that error.
func readFails(t *testing.T, b []byte, most int, want api.Errno) {
	t.Helper()
	if have, e := xz.Read(b, most); e != want || len(have) != 0 {
		t.Errorf("Read(% .200x (%d), %d) = %.60q (%d), error %d, want error %d", b, len(b), most, have, len(have), int(e), int(want))
	}
}

// The chapter's examples.
func TestExamples(t *testing.T) {
	want := unhex("fd377a585a000000ff12d94100000000" + "1cdf4421" + "06729e7a010000000000" + "595a")
	b, e := xz.Make(nil, 9, xz.None)
	if e != api.OK || !bytes.Equal(b, want) {
		t.Errorf("Make(nothing, 9, None) = % x, error %d", b, int(e))
	}
	readTells(t, want, 0, "")
	readTells(t, append(slices.Clone(want), 0, 0, 0, 0), 0, "")
	readFails(t, append(slices.Clone(want), 0), 0, api.ErrForm)
	if b, e := xz.Make([]byte("a"), 9, 2); e != api.ErrArg || len(b) != 0 {
		t.Errorf("Make(a, 9, 2) = % x, error %d", b, int(e))
	}
}

// The kinds of checks are the numbers that streams have.
func TestKindsOfChecks(t *testing.T) {
	if xz.None != 0 || xz.Crc32 != 1 || xz.Crc64 != 4 {
		t.Error(xz.None, xz.Crc32, xz.Crc64)
	}
}

// P16.5: Read of Make is the text, of two made streams joined both.
func TestRoundTrip(t *testing.T) {
	r := rand.New(rand.NewSource(1600))
	var ahead, aheadText []byte
	for range 600 {
		b := repeating(r, r.Intn(1<<r.Intn(14)), 1+r.Intn(256))
		block := []int{1 + r.Intn(len(b)+1), 1 + r.Intn(40), 1 + r.Intn(1<<20), max(1, len(b)), 1 << 20}[r.Intn(5)]
		made, e := xz.Make(b, block, checks[r.Intn(3)])
		if e != api.OK {
			t.Fatalf("Make(%.60q (%d), %d): error %d", b, len(b), block, int(e))
		}
		readTells(t, made, len(b), string(b))
		readTells(t, made, api.MaxBytes, string(b))
		both := slices.Concat(ahead, made)
		readTells(t, both, len(aheadText)+len(b), string(aheadText)+string(b))
		if len(aheadText) > 0 && len(b) > 0 {
			readFails(t, both, len(aheadText)+len(b)-1, api.ErrBig)
			readFails(t, both, len(aheadText)-1, api.ErrBig)
		}
		ahead, aheadText = made, b
	}
}

// P16.5: ReadIndex of Index is the records.
func TestIndexRoundTrip(t *testing.T) {
	r := rand.New(rand.NewSource(1601))
	for range 3000 {
		l := randomRecords(r, r.Intn(1<<r.Intn(9)))
		b, e := xz.Index(l)
		if e != api.OK {
			t.Fatalf("Index(%.200v): error %d", l, int(e))
		}
		tail := randomText(r, r.Intn(9), 256)
		if have, used, e := xz.ReadIndex(slices.Concat(b, tail)); e != api.OK || used != len(b) || !slices.Equal(have, l) {
			t.Fatalf("ReadIndex(Index(%.200v)) = %.200v, %d, error %d", l, have, used, int(e))
		}
	}
}

// P16.2 to P16.5: texts that are longer than a chunk, than what one call of layer 14 packs, and than a block.
func TestLongTexts(t *testing.T) {
	r := rand.New(rand.NewSource(1602))
	for i, x := range []struct {
		letters, size int
		blocks        []int
	}{
		{1, 3<<20 + 7, []int{65535, 65537, 1<<20 - 1, 1 << 20}},
		{4, 100000, []int{65536, 1 << 20}}, // what is neither a run nor any bytes takes long
		{256, 1<<20 + 70000, []int{1 << 20}},
	} {
		b := randomText(r, x.size, x.letters)
		for _, block := range x.blocks {
			made := makes(t, b, block, checks[i])
			readTells(t, made, len(b), string(b))
			readFails(t, made, len(b)-1, api.ErrBig)
		}
	}
}

// P16.3, P16.4: the arguments' errors at their edges, ahead of all that is wrong with the bytes.
func TestReadArguments(t *testing.T) {
	made := makes(t, []byte("a"), 9, xz.Crc32)
	for _, b := range [][]byte{nil, {1}, []byte("no stream"), made, made[:9]} {
		for _, most := range []int{math.MinInt, -2, -1, api.MaxBytes + 1, math.MaxInt} {
			readFails(t, b, most, api.ErrArg)
		}
	}
	for _, most := range []int{1, 2, api.MaxBytes - 1, api.MaxBytes} {
		readTells(t, made, most, "a")
		readFails(t, nil, most, api.ErrEnd)
	}
	readFails(t, made, 0, api.ErrBig)
	readFails(t, nil, 0, api.ErrEnd)
	readTells(t, makes(t, nil, 9, xz.Crc32), 0, "")
}

// Rule 4: what is handed out is not part of what is handed in, nor of what another call hands out.
func TestWhatIsHandedOutIsNew(t *testing.T) {
	b := text("banana")
	made, _ := xz.Make(b, 4, xz.Crc64)
	again, _ := xz.Make(b, 4, xz.Crc64)
	want := slices.Clone(again)
	spoil(made)
	spoil(b)
	if !bytes.Equal(again, want) {
		t.Errorf("% x", again)
	}
	one, _ := xz.Read(again, 9)
	two, _ := xz.Read(again, 9)
	spoil(one)
	spoil(again)
	if string(two) != "banana" {
		t.Errorf("%q", two)
	}
	records := []xz.Record{{Size: 5, Text: 1}, {Size: 6, Text: 2}}
	index, _ := xz.Index(records)
	other, _ := xz.Index(records)
	want = slices.Clone(other)
	spoil(index)
	if !bytes.Equal(other, want) {
		t.Errorf("% x", other)
	}
	l, _, _ := xz.ReadIndex(other)
	m, _, _ := xz.ReadIndex(other)
	for i := range l[:cap(l)] {
		l[:cap(l)][i] = xz.Record{Size: -1}
	}
	spoil(other)
	if !slices.Equal(m, records) {
		t.Error(m)
	}
}

// P16.3: no call changes what the next one answers, whatever it hands out is made.
func TestMadeOfNothingIsNew(t *testing.T) {
	for _, check := range checks {
		want := makes(t, nil, 9, check)
		for range 3 {
			b, _ := xz.Make(nil, 9, check)
			if !bytes.Equal(b, want) {
				t.Errorf("% x", b)
			}
			spoil(b)
		}
	}
}
