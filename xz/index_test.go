package xz_test

import (
	"bytes"
	"math"
	"math/rand"
	"slices"
	"testing"

	"hamper/api"
	"hamper/xz"
)

// randomRecords tells so many records that may be, their numbers of any length.
func randomRecords(r *rand.Rand, count int) []xz.Record {
	l := make([]xz.Record, count, count+3)
	for i := range l {
		l[i] = xz.Record{Size: 5 + r.Intn(1<<r.Intn(40)), Text: r.Intn(1 << r.Intn(41))}
	}
	return l
}

// tells holds Index against the words, and tells what it told.
func tells(t *testing.T, l []xz.Record) ([]byte, api.Errno) {
	t.Helper()
	before := slices.Clone(l[:cap(l)])
	have, e := xz.Index(l)
	want, wantError := modelIndex(l)
	if e != wantError || !bytes.Equal(have, want) {
		t.Fatalf("Index(%.200v (%d)) = % .60x (%d), error %d, want % .60x (%d), error %d", l, len(l), have, len(have), int(e), want, len(want), int(wantError))
	}
	if !slices.Equal(l[:cap(l)], before) {
		t.Fatalf("Index(%.200v (%d)): what was handed in is changed", before, len(l))
	}
	return have, e
}

// readsIndex holds ReadIndex against the words, and tells what it told.
func readsIndex(t *testing.T, b []byte) ([]xz.Record, int, api.Errno) {
	t.Helper()
	before := slices.Clone(b[:cap(b)])
	have, used, e := xz.ReadIndex(b)
	want, wantUsed, wantError := modelReadIndex(b)
	if e != wantError || used != wantUsed || !slices.Equal(have, want) {
		t.Fatalf("ReadIndex(% .200x (%d)) = %.200v, %d, error %d, want %.200v, %d, error %d", b, len(b), have, used, int(e), want, wantUsed, int(wantError))
	}
	if unlike(b, before) {
		t.Fatalf("ReadIndex(% .200x (%d)): what was handed in is changed", before, len(b))
	}
	return have, used, e
}

// readIndexFails asks that ReadIndex tells just that error.
func readIndexFails(t *testing.T, b []byte, want api.Errno) {
	t.Helper()
	if l, used, e := xz.ReadIndex(b); e != want || used != 0 || len(l) != 0 {
		t.Errorf("ReadIndex(% .200x (%d)) = %.200v, %d, error %d, want error %d", b, len(b), l, used, int(e), int(want))
	}
}

// summed tells bytes with their sum behind them.
func summed(b ...byte) []byte { return append(slices.Clone(b), modelSum(b)...) }

// P16.1, P16.2: indexes written out by hand, of which each needs another number of bytes to be filled up.
func TestIndexByHand(t *testing.T) {
	for _, x := range []struct {
		l    []xz.Record
		want []byte
	}{
		{nil, summed(0, 0, 0, 0)},
		{[]xz.Record{}, summed(0, 0, 0, 0)},
		{[]xz.Record{{5, 0}}, summed(0, 1, 5, 0)},
		{[]xz.Record{{5, 127}}, summed(0, 1, 5, 127)},
		{[]xz.Record{{5, 128}}, summed(0, 1, 5, 0x80, 1, 0, 0, 0)},
		{[]xz.Record{{127, 1}, {5, 3}}, summed(0, 2, 127, 1, 5, 3, 0, 0)},
		{[]xz.Record{{300, 1}, {5, 3}}, summed(0, 2, 0xac, 2, 1, 5, 3, 0)},
		{[]xz.Record{{300, 300}, {5, 3}}, summed(0, 2, 0xac, 2, 0xac, 2, 5, 3)},
		{[]xz.Record{{1 << 40, 1 << 40}}, summed(0, 1, 0x80, 0x80, 0x80, 0x80, 0x80, 0x20, 0x80, 0x80, 0x80, 0x80, 0x80, 0x20, 0, 0)},
	} {
		if b, e := tells(t, x.l); e != api.OK || !bytes.Equal(b, x.want) {
			t.Errorf("Index(%v) = % x, error %d, want % x", x.l, b, int(e), x.want)
		}
		for _, tail := range []string{"", "\x00", "\x00\x00\x00\x00", "\x01", "YZ", string(x.want)} {
			l, used, e := readsIndex(t, append(slices.Clone(x.want), tail...))
			if e != api.OK || used != len(x.want) || !slices.Equal(l, x.l) {
				t.Errorf("ReadIndex(% x, and % x) = %v, %d, error %d, want %v", x.want, tail, l, used, int(e), x.l)
			}
		}
	}
}

// P16.1: numbers that may just be, and just not, at every place.
func TestIndexNumbersAtTheEdges(t *testing.T) {
	sizes := map[int]bool{math.MinInt: false, -1: false, 0: false, 4: false, 5: true, 1<<40 - 1: true, 1 << 40: true, 1<<40 + 1: false, math.MaxInt: false}
	texts := map[int]bool{math.MinInt: false, -1: false, 0: true, 1: true, 1<<40 - 1: true, 1 << 40: true, 1<<40 + 1: false, math.MaxInt: false}
	for size, isSize := range sizes {
		for text, isText := range texts {
			for at := range 3 {
				l := []xz.Record{{5, 0}, {9, 9}, {1 << 40, 1 << 40}}
				l[at] = xz.Record{Size: size, Text: text}
				b, e := tells(t, l)
				switch {
				case isSize && isText && (e != api.OK || len(b) == 0):
					t.Errorf("Index(%v): error %d", l, int(e))
				case !(isSize && isText) && (e != api.ErrArg || len(b) != 0):
					t.Errorf("Index(%v) = % x, error %d", l, b, int(e))
				}
			}
		}
	}
}

// P16.2: records that may just be, and just not. The numbers are looked at behind both.
func TestReadIndexNumbersAtTheEdges(t *testing.T) {
	sizes := map[int]bool{0: false, 4: false, 5: true, 1<<40 - 1: true, 1 << 40: true, 1<<40 + 1: false, math.MaxInt: false}
	texts := map[int]bool{0: true, 1: true, 1<<40 - 1: true, 1 << 40: true, 1<<40 + 1: false, math.MaxInt: false}
	for size, isSize := range sizes {
		for text, isText := range texts {
			l := []xz.Record{{5, 0}, {size, text}, {1 << 40, 1 << 40}}
			b := indexOf(l...)
			have, used, e := readsIndex(t, b)
			switch {
			case isSize && isText && (e != api.OK || used != len(b) || !slices.Equal(have, l)):
				t.Errorf("%v: ReadIndex = %v, %d, error %d", l, have, used, int(e))
			case !(isSize && isText):
				readIndexFails(t, b, api.ErrForm)
			}
			b = slices.Concat([]byte{0, 1}, modelLong(size))
			readIndexFails(t, b, api.ErrEnd)
			readIndexFails(t, append(b, 0x80), api.ErrEnd)
			readIndexFails(t, append(b, 0x80, 0), api.ErrForm)
		}
	}
}

// P16.1, P16.2: as many records as may be, and one more.
func TestMostRecords(t *testing.T) {
	l := randomRecords(rand.New(rand.NewSource(1610)), 65537)
	for n, want := range map[int]api.Errno{65535: api.OK, 65536: api.OK, 65537: api.ErrArg} {
		b, e := tells(t, l[:n])
		if e != want || (len(b) == 0) != (e != api.OK) {
			t.Errorf("Index of %d records: %d bytes, error %d", n, len(b), int(e))
		}
	}
	if have, used, e := readsIndex(t, indexOf(l[:65536]...)); e != api.OK || used == 0 || !slices.Equal(have, l[:65536]) {
		t.Errorf("%d records, error %d", len(have), int(e))
	}
	readIndexFails(t, indexOf(l...), api.ErrForm)
	for _, n := range []int{65537, 65538, 1 << 17, 1 << 32, 1<<32 + 1, 1 << 62, math.MaxInt} {
		readIndexFails(t, append([]byte{0}, modelLong(n)...), api.ErrForm)
		readIndexFails(t, summed(append([]byte{0}, modelLong(n)...)...), api.ErrForm)
	}
	for _, n := range []int{1, 2, 65535, 65536} {
		readIndexFails(t, append([]byte{0}, modelLong(n)...), api.ErrEnd)
		readIndexFails(t, append(append([]byte{0}, modelLong(n)...), 5), api.ErrEnd)
	}
	l[0].Size = 4
	if _, e := tells(t, l); e != api.ErrArg {
		t.Errorf("error %d", int(e))
	}
}

// P16.2: the order of the errors, where two would fit.
func TestReadIndexOrderOfErrors(t *testing.T) {
	for _, x := range []struct {
		what string
		b    string
		want api.Errno
	}{
		{"nothing", "", api.ErrEnd},
		{"no index, and no number", "\x01", api.ErrForm},
		{"no index, and a number that is none", "\xff\x80\x00", api.ErrForm},
		{"an index without a number", "\x00", api.ErrEnd},
		{"half a number", "\x00\x80", api.ErrEnd},
		{"a number of nine bytes, and no tenth one", "\x00\xff\xff\xff\xff\xff\xff\xff\xff\xff", api.ErrEnd},
		{"a number of ten bytes", "\x00\xff\xff\xff\xff\xff\xff\xff\xff\xff\x01", api.ErrForm},
		{"a number that is none, and no record", "\x00\x80\x00", api.ErrForm},
		{"a number in two bytes that has one", "\x00\x81\x00\x05\x00", api.ErrForm},
		{"too many, and no record", "\x00\x81\x80\x04", api.ErrForm},
		{"too many, and a record that may not be", "\x00\x81\x80\x04\x04\x00", api.ErrForm},
		{"just not too many, and no record", "\x00\x80\x80\x04", api.ErrEnd},
		{"a Size that may not be, and no Text", "\x00\x01\x04", api.ErrEnd},
		{"a Size that may not be, and half a Text", "\x00\x01\x04\x80", api.ErrEnd},
		{"a Size that may not be, and a Text that is none", "\x00\x01\x04\x80\x00", api.ErrForm},
		{"a Size that is none, and no Text", "\x00\x01\x85\x00", api.ErrForm},
		{"a Size that is none, and half a Text", "\x00\x01\x85\x00\x80", api.ErrForm},
		{"a record that may not be, and none behind it", "\x00\x02\x04\x00", api.ErrForm},
		{"a record that may not be, and half a one behind it", "\x00\x02\x04\x00\x05", api.ErrForm},
		{"a record that may not be, and no sum", "\x00\x01\x04\x00", api.ErrForm},
		{"a record that may be, and none behind it", "\x00\x02\x05\x00", api.ErrEnd},
		{"a record that may be, and half a one behind it", "\x00\x02\x05\x00\x05", api.ErrEnd},
		{"a Text that may not be, and none behind it", "\x00\x02\x05\x81\x80\x80\x80\x80\x20", api.ErrForm},
		{"nothing that fills up", "\x00\x00", api.ErrEnd},
		{"one byte that fills up", "\x00\x00\x00", api.ErrEnd},
		{"another byte that fills up, and none behind it", "\x00\x00\x01", api.ErrForm},
		{"another byte that fills up, and no sum", "\x00\x00\x00\x01", api.ErrForm},
		{"another byte that fills up, and a wrong sum", "\x00\x00\x00\x80\x00\x00\x00\x00", api.ErrForm},
		{"no sum", "\x00\x00\x00\x00", api.ErrEnd},
		{"three bytes of a wrong sum", "\x00\x00\x00\x00\xff\xff\xff", api.ErrEnd},
		{"a wrong sum", "\x00\x00\x00\x00\x1c\xdf\x44\x20", api.ErrSum},
		{"a wrong sum, and more", "\x00\x00\x00\x00\x1d\xdf\x44\x21\x00", api.ErrSum},
		{"the sum, the highest byte first", "\x00\x00\x00\x00\x21\x44\xdf\x1c", api.ErrSum},
	} {
		if _, _, e := xz.ReadIndex([]byte(x.b)); e != x.want {
			t.Errorf("%s: ReadIndex(% x): error %d, want %d", x.what, x.b, int(e), int(x.want))
		}
		readIndexFails(t, []byte(x.b), x.want)
		readsIndex(t, text(x.b))
	}
	readIndexFails(t, summed(0, 0, 0, 1), api.ErrForm)
	readIndexFails(t, summed(0, 0, 1, 0), api.ErrForm)
	readIndexFails(t, summed(0, 1, 5, 0x80, 1, 0, 0, 0x80), api.ErrForm)
	readIndexFails(t, summed(1, 0, 0, 0), api.ErrForm)
}

// P16.2: indexes cut off at every byte, and with any one bit another one.
func TestReadIndexOfOtherBytes(t *testing.T) {
	r := rand.New(rand.NewSource(1611))
	for n := range 12 {
		b := indexOf(randomRecords(r, n)...)
		for cut := range b {
			readIndexFails(t, b[:cut:cut], api.ErrEnd)
		}
		for bit := range 8 * len(b) {
			other := slices.Clone(b)
			other[bit/8] ^= 1 << (bit % 8)
			if _, _, e := readsIndex(t, other); e == api.OK {
				t.Errorf("% x with the bit %d another one is read", b, bit)
			}
		}
	}
}

// P16.2: bytes that no call made, with their sum and without.
func TestReadIndexOfAnyBytes(t *testing.T) {
	r := rand.New(rand.NewSource(1612))
	told := map[api.Errno]int{}
	for range 60000 {
		b := randomText(r, r.Intn(24), 1+r.Intn(256))
		if len(b) > 1 && r.Intn(8) > 0 {
			b[0], b[1] = 0, byte(r.Intn(4))
		}
		for i := range b {
			if i > 1 && r.Intn(4) == 0 {
				b[i] = []byte{0, 0, 4, 5, 0x80, 0x85}[r.Intn(6)]
			}
		}
		if r.Intn(3) > 0 {
			for n := len(b); n > 0 && r.Intn(4) > 0; n-- {
				b[n-1] = 0
			}
			b = append(modelFilled(b), modelSum(modelFilled(b))...)
		}
		_, _, e := readsIndex(t, b)
		told[e]++
	}
	for _, e := range []api.Errno{api.OK, api.ErrEnd, api.ErrForm, api.ErrSum} {
		if told[e] < 1000 {
			t.Errorf("error %d was told %d times", int(e), told[e])
		}
	}
}

// P16.1, P16.2: every short list of numbers that matter.
func TestEachShortIndex(t *testing.T) {
	letters := []byte{0, 1, 2, 4, 5, 0x80, 0x81}
	last := [][]byte{nil}
	for range 6 {
		var longer [][]byte
		for _, b := range last {
			for _, c := range letters {
				longer = append(longer, append(slices.Clone(b), c))
			}
		}
		for _, b := range longer {
			if len(b) < 5 || b[0] == 0 { // others end at the first byte
				readsIndex(t, b)
				filled := modelFilled(slices.Clone(b))
				readsIndex(t, append(filled, modelSum(filled)...))
			}
		}
		last = longer
	}
}

// P16.1: many lists, of which some have a record that may not be.
func TestManyIndexes(t *testing.T) {
	r := rand.New(rand.NewSource(1613))
	fills := map[int]int{}
	for range 4000 {
		l := randomRecords(r, r.Intn(20))
		if len(l) > 0 && r.Intn(4) == 0 {
			wrong := []xz.Record{{4, 0}, {-5, 0}, {1<<40 + 1, 0}, {5, -1}, {5, 1<<40 + 1}, {0, 0}}
			l[r.Intn(len(l))] = wrong[r.Intn(len(wrong))]
		}
		b, e := tells(t, l)
		if e != api.OK {
			continue
		}
		if len(b)%4 != 0 {
			t.Fatalf("Index(%v) has %d bytes", l, len(b))
		}
		size := 1 + len(modelLong(len(l)))
		for _, x := range l {
			size += len(modelLong(x.Size)) + len(modelLong(x.Text))
		}
		fills[len(b)-4-size]++
	}
	for n := range 4 {
		if fills[n] < 100 {
			t.Errorf("%d bytes filled up %d indexes", n, fills[n])
		}
	}
	if len(fills) != 4 {
		t.Errorf("%v", fills)
	}
}
