package lzma_test

import (
	"bytes"
	"fmt"
	"math/rand"
	"slices"
	"testing"

	"hamper/api"
	"hamper/lzma"
)

// randomCall does any call, some of them such that are refused.
func (w *twins) randomCall(r *rand.Rand) {
	w.t.Helper()
	letters := []int{1, 2, 5, 256}[r.Intn(4)]
	switch r.Intn(14) {
	case 0:
		w.reset(props(r.Intn(7)-1, r.Intn(7)-1, r.Intn(7)-1))
	case 1:
		all := allProps()
		w.reset(all[r.Intn(len(all))])
	case 2:
		w.restart()
	case 3:
		w.forget()
	case 4, 5:
		w.copy(repeating(r, 1+r.Intn(50), letters))
	case 6, 7:
		w.pack(repeating(r, 1+r.Intn(150), letters))
	case 8:
		w.pack(randomText(r, r.Intn(40), letters))
	case 9:
		again := w.m.text()
		if len(again) > 0 {
			again = again[r.Intn(len(again)):]
		}
		w.pack(slices.Clone(again[:min(len(again), 300)]))
	case 10, 11:
		w.randomUnpack(r)
	default:
		if w.m.set {
			pieces := randomPieces(r, w.m.clone(), 1+r.Intn(20))
			w.puts(pieces...)
		}
	}
}

// randomUnpack unpacks bytes that are likely wrong.
func (w *twins) randomUnpack(r *rand.Rand) {
	w.t.Helper()
	m := w.m.clone()
	m.used = nil
	if !m.set {
		m.reset(props(0, 0, 0))
	}
	pieces := randomPieces(r, m.clone(), 1+r.Intn(9))
	n := sizeOf(pieces)
	packed := m.write(pieces...)
	switch r.Intn(6) {
	case 0:
		packed = packed[:r.Intn(len(packed))]
	case 1:
		packed = append(packed, byte(r.Intn(2)))
	case 2:
		packed[r.Intn(len(packed))] ^= 1 << r.Intn(8)
	case 3:
		n += r.Intn(5) - 2
	case 4:
		packed = randomText(r, 20, 256)
		packed[0] = 0
	default:
		n = []int{-1, 0, 1, 1<<20 + 1}[r.Intn(4)]
	}
	w.unpack(packed, n)
}

// P14.2 to P14.4: many rows of calls on one state, each call held against the words.
func TestRowsOfCalls(t *testing.T) {
	r := rand.New(rand.NewSource(1430))
	for range 2500 {
		w := bareTwins(t, []int{1, 2, 5, 30, 200, 5000, 1 << 28}[r.Intn(7)])
		if r.Intn(9) > 0 {
			all := allProps()
			w.reset(all[r.Intn(len(all))])
		}
		for range 1 + r.Intn(25) {
			w.randomCall(r)
		}
		w.probe()
	}
}

// Words: every chance that hangs on Z, on the place or on the byte ahead is come to with both bits: in pieces that are unpacked, and packed behind them.
func TestEachChance(t *testing.T) {
	seen := used{}
	for i, p := range []lzma.Props{props(0, 0, 4), props(4, 0, 4), props(0, 4, 3), props(2, 2, 4)} {
		r := rand.New(rand.NewSource(int64(1440 + i)))
		w := newTwins(t, 3000, p)
		w.m.used = seen
		for range 400 {
			pieces := randomPieces(r, w.m.clone(), 70)
			w.puts(pieces...)
			w.pack(repeating(r, 30, 256))
		}
	}
	both := func(n name) {
		t.Helper()
		if u := seen[n]; u == nil || u[0] == 0 || u[1] == 0 {
			t.Errorf("not both bits of %v were come to", n)
		}
	}
	for z := range 12 {
		for y := range 16 {
			both(name{kind: "match", a: z, b: y})
			both(name{kind: "long", a: z, b: y})
		}
		for _, kind := range []string{"rep", "rep0", "rep1", "rep2"} {
			both(name{kind: kind, a: z})
		}
	}
	for _, kind := range []string{"match", "far"} {
		both(name{kind: kind + " choice"})
		both(name{kind: kind + " choice2"})
		both(name{kind: kind + " high", treeNode: 1})
		for y := range 16 {
			both(name{kind: kind + " low", a: y, treeNode: 4})
			both(name{kind: kind + " mid", a: y, treeNode: 1})
		}
	}
	for l := range 4 {
		both(name{kind: "slot", a: l, treeNode: 2})
	}
	for s := 4; s <= 13; s++ {
		both(name{kind: "near", a: s, treeNode: 1})
	}
	both(name{kind: "align", treeNode: 1})
	for k := range 16 {
		for _, at := range []int{1, 2, 3, 256 + 1, 512 + 1} {
			both(name{kind: "lit", a: k, treeNode: at})
		}
	}
}

// action is a call that both of two states have: one packs what the other unpacks.
type action struct {
	call string
	p    lzma.Props
	b    []byte
}

// do does it: a state that packs tells the packed bytes; one that unpacks has them handed in.
func (a action) do(t *testing.T, s *lzma.State, unpacks bool, packed []byte) []byte {
	t.Helper()
	e := api.OK
	switch a.call {
	case "reset":
		e = s.Reset(a.p)
	case "restart":
		e = s.Restart()
	case "forget":
		e = s.Forget()
	case "copy":
		e = s.Copy(a.b)
	case "pack":
		if !unpacks {
			packed, e = s.Pack(a.b)
			break
		}
		var b []byte
		b, e = s.Unpack(packed, len(a.b))
		if !bytes.Equal(b, a.b) {
			t.Fatalf("Unpack(% .60x, %d) = %.60q, want %.60q", packed, len(a.b), b, a.b)
		}
	}
	if e != api.OK {
		t.Fatalf("%s: error %d", a.call, int(e))
	}
	return packed
}

func randomAction(r *rand.Rand) action {
	letters := []int{1, 2, 5, 256}[r.Intn(4)]
	switch r.Intn(10) {
	case 0:
		all := allProps()
		return action{call: "reset", p: all[r.Intn(len(all))]}
	case 1:
		return action{call: "restart"}
	case 2:
		return action{call: "forget"}
	case 3, 4:
		return action{call: "copy", b: repeating(r, 1+r.Intn(60), letters)}
	}
	return action{call: "pack", b: repeating(r, 1+r.Intn(1<<r.Intn(9)), letters)[r.Intn(2):]}
}

// sameStates holds two states against one another by all that calls tell of them.
func sameStates(t *testing.T, row string, s, o *lzma.State) {
	t.Helper()
	if !bytes.Equal(s.Text(), o.Text()) {
		t.Fatalf("behind %s: the texts are %.60q and %.60q", row, s.Text(), o.Text())
	}
	probe := slices.Concat(s.Text()[:min(9, len(s.Text()))], []byte("probe probe \xff\x00\x80 aaaaaaaaaaaaaaaaaaa"))
	for range 2 {
		one, e := s.Pack(probe)
		two, f := o.Pack(probe)
		if e != f || !bytes.Equal(one, two) {
			t.Fatalf("behind %s: one packs % x (error %d), the other % x (error %d)", row, one, int(e), two, int(f))
		}
	}
}

// P14.5: for many rows of calls, what one state packs another one unpacks, and behind each call both are alike.
func TestPackedIsUnpacked(t *testing.T) {
	r := rand.New(rand.NewSource(1431))
	for range 400 {
		window := []int{1, 3, 17, 100, 1000, 1 << 28}[r.Intn(6)]
		all := allProps()
		row := []action{{call: "reset", p: all[r.Intn(len(all))]}}
		for range 1 + r.Intn(10) {
			row = append(row, randomAction(r))
		}
		for calls := range row { // both are made anew for each, as holding them against one another changes them
			s, _ := lzma.New(window)
			o, _ := lzma.New(window)
			told := fmt.Sprintf("window %d:", window)
			for _, a := range row[:calls+1] {
				packed := a.do(t, s, false, nil)
				a.do(t, o, true, packed)
				told += " " + a.call
			}
			sameStates(t, told, s, o)
		}
	}
}

// P14.5: by turns each of the two packs, and the other one unpacks.
func TestEachPacksByTurns(t *testing.T) {
	r := rand.New(rand.NewSource(1432))
	for _, p := range allProps() {
		s, o := newState(t, 500, p), newState(t, 500, p)
		for range 12 {
			b := repeating(r, 1+r.Intn(300), 1+r.Intn(9))
			packed, e := s.Pack(b)
			if e != api.OK {
				t.Fatal(int(e))
			}
			if have, e := o.Unpack(packed, len(b)); e != api.OK || !bytes.Equal(have, b) {
				t.Fatalf("%v: Unpack = %.60q, error %d, want %.60q", p, have, int(e), b)
			}
			s, o = o, s
		}
		sameStates(t, "turns", s, o)
	}
}

// P14.4, rule 2: refused calls of all kinds, again and again between calls that are not, are as if they had not been.
func TestRefusedCallsChangeNothing(t *testing.T) {
	r := rand.New(rand.NewSource(1433))
	big := make([]byte, 1<<20+1)
	for range 60 {
		all := allProps()
		p := all[r.Intn(len(all))]
		window := []int{1, 9, 100, 1000}[r.Intn(4)]
		s, o := newState(t, window, p), newState(t, window, p)
		for range 8 {
			b := repeating(r, 1+r.Intn(200), 1+r.Intn(9))
			packed, _ := s.Pack(b)
			refusals := []api.Errno{o.Copy(big), o.Reset(props(5, 0, 0))}
			_, e := o.Pack(big)
			refusals = append(refusals, e)
			for _, wrong := range [][]byte{nil, packed[:4], packed[:len(packed)-1], append(slices.Clone(packed), 0), append([]byte{1}, packed[1:]...)} {
				_, e := o.Unpack(wrong, len(b))
				refusals = append(refusals, e)
			}
			for _, n := range []int{-1, 1<<20 + 1} {
				_, e := o.Unpack(packed, n)
				refusals = append(refusals, e)
			}
			if slices.Contains(refusals, api.OK) {
				t.Fatalf("not all are refused: %v", refusals)
			}
			if have, e := o.Unpack(packed, len(b)); e != api.OK || !bytes.Equal(have, b) {
				t.Fatalf("behind refused calls Unpack = %.60q, error %d, want %.60q", have, int(e), b)
			}
		}
		sameStates(t, "refused calls", s, o)
	}
}
