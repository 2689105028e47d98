package ranger_test

import (
	"bytes"
	"math/rand"
	"slices"
	"testing"
)

// halfway is a place in the range of an encoder that has written nothing, at which a byte ends: whoever comes near it from below has bytes waiting for a carry.
const halfway = 0x80000000

// by tells the steps of a bit by a chance, which the model has taken, too.
func by(w *writer, p, bit int) []step {
	row := []step{{call: callSet, list: []int{p}}, {call: callBit, v: bit}}
	for _, s := range row {
		w.do(s)
	}
	return row
}

// chase goes on with bits by any chances, so that a place stays in the range, until a byte is shifted out; it tells the steps. If just is true, it takes each chance by which low comes just to the place.
func chase(r *rand.Rand, w *writer, place int, just bool) []step {
	var row []step
	for before := w.shifted; w.shifted == before; {
		p := 31 + r.Intn(1987)
		part := w.width / 2048
		if far := place - w.low; just && far%part == 0 && 31 <= far/part && far/part <= 2017 {
			p = far / part
		}
		bit := 0
		if place >= w.low+part*p {
			bit = 1
		}
		row = append(row, by(w, p, bit)...)
	}
	return row
}

// open is whether a carry may still come: the range reaches over the place where one begins.
func open(w *writer) bool { return w.low < top && w.low+w.width > top }

// approach tells a row behind which so many bytes have been shifted out, of which all but the first byte 0 are waiting, and a carry may come.
func approach(t *testing.T, r *rand.Rand, bytes int) ([]step, *writer) {
	t.Helper()
	for range 1000 {
		w := newWriter(1)
		var row []step
		for range bytes {
			place := top - 1
			if w.shifted == 0 {
				place = halfway - 1
			}
			row = append(row, chase(r, w, place, false)...)
			if !open(w) {
				break
			}
		}
		if w.shifted == bytes {
			return row, w
		}
	}
	t.Fatalf("no row has %d bytes waiting for a carry", bytes)
	return nil, nil
}

// seek tells a row at whose end a byte is shifted out just as low is the one sought, behind so many others.
func seek(t *testing.T, r *rand.Rand, low, ahead int) ([]step, *writer) {
	t.Helper()
	for range 1000000 {
		row, w := approach(t, r, ahead)
		if low < w.low || low >= w.low+w.width {
			continue
		}
		row = append(row, chase(r, w, low, true)...)
		if w.lows[len(w.lows)-1] == low {
			return row, w
		}
	}
	t.Fatalf("no row has low at %x behind %d bytes", low, ahead)
	return nil, nil
}

// checkRow writes a row, and what is behind it, against the models, and reads it again.
func checkRow(t *testing.T, row []step, behind ...step) {
	t.Helper()
	c, w := newEncoder(t, 1), newWriter(1)
	for i, s := range slices.Concat(row, behind) {
		mustWrite(t, c, s)
		w.do(s)
		if i >= len(row)-2 {
			checkEncoder(t, c, w)
		}
	}
	checkReadAgain(t, slices.Concat(row, behind), 1)
}

// Words: low at the edges of what is written and what waits, as a byte is shifted out: just below ff000000 (16), at it, at ffffffff (16), and above it.
func TestLowAtTheEdges(t *testing.T) {
	r := rand.New(rand.NewSource(1305))
	noughts := []step{{call: callDirect, n: 31}, {call: callDirect, n: 31}}
	ones := []step{{call: callDirect, v: 1<<31 - 1, n: 31}, {call: callDirect, v: 1<<31 - 1, n: 31}}
	for _, x := range []struct {
		low   int
		waits bool
		ahead []int // not 0 from ffffffff (16) on: the range at first does not reach so far
	}{
		{0xfeffffff, false, []int{0, 1, 2, 4}},
		{0xff000000, true, []int{0, 1, 2, 4}},
		{0xff000001, true, []int{0, 1, 2, 4}},
		{0xfffffffe, true, []int{1, 2, 4}},
		{0xffffffff, true, []int{1, 2, 4}},
		{0x100000000, false, []int{1, 2, 4}},
		{0x100000001, false, []int{1, 2, 4}},
	} {
		for _, ahead := range x.ahead {
			row, w := seek(t, r, x.low, ahead)
			if waits := w.waiting > 1; waits != x.waits || w.waits[ahead] != max(ahead, 1) {
				t.Fatalf("low %x behind %d bytes: %d are waiting", x.low, ahead, w.waiting)
			}
			checkRow(t, row)
			checkRow(t, row, noughts...)
			checkRow(t, row, ones...)
			checkRow(t, row, slices.Concat(randomRow(r, 1, 20), ones)...)
		}
	}
}

// Words: a carry goes through all bytes ff that are waiting; without one they stay.
func TestCarryThroughWaitingBytes(t *testing.T) {
	r := rand.New(rand.NewSource(1306))
	for waiting := 2; waiting <= 300; waiting += 1 + waiting/9 {
		found := false
		for range 100 {
			row, w := approach(t, r, waiting)
			had := len(w.out)
			if w.waiting != waiting {
				t.Fatalf("%d are waiting, not %d", w.waiting, waiting)
			}
			checkRow(t, row)
			for w.shifted == waiting { // these go as far up in the range as may be
				row = append(row, by(w, 2017, 1)...)
			}
			if w.lows[waiting] < top { // even there no carry came
				continue
			}
			found = true
			if !bytes.Equal(w.out[had:], append([]byte{halfway >> 24}, make([]byte, waiting-1)...)) {
				t.Fatalf("%d were waiting for the carry: % x", waiting, w.out[had:])
			}
			checkRow(t, row)
			checkRow(t, row, randomRow(r, 1, 20)...)
			break
		}
		if !found {
			t.Fatalf("no carry came to %d bytes", waiting)
		}
	}
}

// Words, by hand: behind 01111111 directly low is 7efffff9 (16), so that 7e is kept; behind sixteen noughts, in which low stays as it is, ff and ff are waiting, and low is f9000000 (16), the range ffffff00 (16). A bit 1 makes low 178ffff80 (16).
func TestCarryByHand(t *testing.T) {
	c := newEncoder(t, 0)
	mustWrite(t, c, step{call: callDirect, v: 0x7f, n: 8})
	checkBytes(t, c, []byte{0, 0x7e, 0xff, 0xff, 0xf9, 0})
	mustWrite(t, c, step{call: callDirect, v: 0, n: 16})
	checkBytes(t, c, []byte{0, 0x7e, 0xff, 0xff, 0xf9, 0, 0, 0})
	mustWrite(t, c, step{call: callDirect, v: 1, n: 1})
	checkBytes(t, c, []byte{0, 0x7f, 0, 0, 0x78, 0xff, 0xff, 0x80})
	mustWrite(t, c, step{call: callDirect, v: 0, n: 7})
	checkBytes(t, c, []byte{0, 0x7f, 0, 0, 0x78, 0xff, 0xff, 0x80, 0})
}
