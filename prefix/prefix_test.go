package prefix_test

import (
	"bytes"
	"math"
	"math/rand"
	"slices"
	"sort"
	"strconv"
	"strings"
	"testing"

	"hamper/api"
	"hamper/bits"
	"hamper/prefix"
)

const (
	mostLength  = 20
	mostSymbols = 65536
	mostCost    = 1 << 62
)

var orders = []bool{false, true}

// wordsByDigits tells the words of full lengths as texts of digits, by the document's words alone: sorted by length and symbol, each is the one ahead and one, with noughts behind it.
func wordsByDigits(lengths []int) []string {
	var symbols []int
	for s, length := range lengths {
		if length > 0 {
			symbols = append(symbols, s)
		}
	}
	sort.SliceStable(symbols, func(i, j int) bool { return lengths[symbols[i]] < lengths[symbols[j]] })
	words := make([]string, len(lengths))
	last := ""
	for _, s := range symbols {
		if last != "" {
			last = andOne(last)
		}
		last += strings.Repeat("0", lengths[s]-len(last))
		words[s] = last
	}
	return words
}

// andOne adds one to digits to the base 2.
func andOne(digits string) string {
	b := []byte(digits)
	for i := len(b) - 1; i >= 0; i-- {
		if b[i] == '0' {
			b[i] = '1'
			break
		}
		b[i] = '0'
	}
	return string(b)
}

// space tells how much of all that there is words of these lengths take, in parts of 2^20.
func space(lengths []int) int {
	sum := 0
	for _, length := range lengths {
		if length > 0 {
			sum += 1 << (mostLength - length)
		}
	}
	return sum
}

// wanted tells what New answers to lengths that may be asked for.
func wanted(lengths []int, loose bool) api.Errno {
	var there []int
	for _, length := range lengths {
		if length > 0 {
			there = append(there, length)
		}
	}
	if space(lengths) == 1<<mostLength || loose && (len(there) == 0 || len(there) == 1 && there[0] == 1) {
		return api.OK
	}
	return api.ErrCode
}

func made(t *testing.T, lengths []int, most int, loose bool) *prefix.Code {
	t.Helper()
	c, e := prefix.New(lengths, most, loose)
	if e != api.OK || c == nil {
		t.Fatalf("New of %d lengths, most %d, loose %t: %v, error %d", len(lengths), most, loose, c != nil, int(e))
	}
	return c
}

func refused(t *testing.T, lengths []int, most int, loose bool, want api.Errno) {
	t.Helper()
	c, e := prefix.New(lengths, most, loose)
	if e != want || c != nil {
		t.Errorf("New of %d lengths, most %d, loose %t: a code %t, error %d, want error %d", len(lengths), most, loose, c != nil, int(e), int(want))
	}
}

// hasWord checks a word, as Word tells it and as Put writes it.
func hasWord(t *testing.T, c *prefix.Code, symbol int, digits string) {
	t.Helper()
	word, length, e := c.Word(symbol)
	told := strconv.FormatUint(uint64(word), 2)
	if len(told) < length {
		told = strings.Repeat("0", length-len(told)) + told
	}
	if e != api.OK || told != digits || length != len(digits) {
		t.Fatalf("Word(%d) = %d, %d, error %d, want %s", symbol, word, length, int(e), digits)
	}
}

func hasNoWord(t *testing.T, c *prefix.Code, symbol int, want api.Errno) {
	t.Helper()
	if word, length, e := c.Word(symbol); word != 0 || length != 0 || e != want {
		t.Errorf("Word(%d) = %d, %d, error %d, want 0, 0, error %d", symbol, word, length, int(e), int(want))
	}
}

// writer begins with digits, one by one.
func writer(t *testing.T, digits string, high bool) *bits.Writer {
	t.Helper()
	w := bits.New(high)
	for _, d := range digits {
		if e := w.Put(uint64(d-'0'), 1); e != api.OK {
			t.Fatal(int(e))
		}
	}
	return w
}

// reader has just these digits left: those that fill its first byte are read ahead.
func reader(t *testing.T, digits string, high bool) *bits.Reader {
	t.Helper()
	fill := (8 - len(digits)%8) % 8
	r := bits.NewReader(writer(t, strings.Repeat("1", fill)+digits, high).Bytes(), high)
	if _, e := r.Get(fill); e != api.OK || r.Left() != len(digits) {
		t.Fatal(int(e), r.Left())
	}
	return r
}

// written tells a writer's bits as digits, in the order in which they were put.
func written(t *testing.T, w *bits.Writer, high bool) string {
	t.Helper()
	r := bits.NewReader(w.Bytes(), high)
	var all strings.Builder
	for range w.Len() {
		v, e := r.Get(1)
		if e != api.OK {
			t.Fatal(int(e))
		}
		all.WriteByte('0' + byte(v))
	}
	return all.String()
}

func gets(t *testing.T, c *prefix.Code, r *bits.Reader, want int) {
	t.Helper()
	if s, e := c.Get(r); s != want || e != api.OK {
		t.Fatalf("Get = %d, error %d, want %d", s, int(e), want)
	}
}

// getFails checks an error of Get, and how many bits are left behind it.
func getFails(t *testing.T, c *prefix.Code, r *bits.Reader, want api.Errno, left int) {
	t.Helper()
	if s, e := c.Get(r); s != 0 || e != want {
		t.Errorf("Get = %d, error %d, want 0, error %d", s, int(e), int(want))
	}
	if r.Left() != left {
		t.Errorf("%d bits are left, want %d", r.Left(), left)
	}
}

func costs(t *testing.T, c *prefix.Code, often []int, want int) {
	t.Helper()
	if n, e := c.Cost(often); n != want || e != api.OK {
		t.Errorf("Cost(%d) = %d, error %d, want %d", often[:min(len(often), 8)], n, int(e), want)
	}
}

func costFails(t *testing.T, c *prefix.Code, often []int, want api.Errno) {
	t.Helper()
	if n, e := c.Cost(often); n != 0 || e != want {
		t.Errorf("Cost(%d) = %d, error %d, want 0, error %d", often[:min(len(often), 8)], n, int(e), int(want))
	}
}

// chain tells the lengths 1, 2, .. most, most, which are full.
func chain(most int) []int {
	lengths := []int{most}
	for length := most; length > 0; length-- {
		lengths = append(lengths, length)
	}
	slices.Reverse(lengths)
	return lengths
}

// alike tells n lengths that are the same.
func alike(n, length int) []int {
	lengths := make([]int, n)
	for i := range lengths {
		lengths[i] = length
	}
	return lengths
}

// someFull tells full lengths, by splitting words, with symbols that have none among them.
func someFull(r *rand.Rand, splits, most int) []int {
	lengths := []int{1, 1}
	for range splits {
		if i := r.Intn(len(lengths)); lengths[i] < most {
			lengths[i]++
			lengths = append(lengths, lengths[i])
		}
	}
	for range r.Intn(4) {
		lengths = append(lengths, 0)
	}
	r.Shuffle(len(lengths), func(i, j int) { lengths[i], lengths[j] = lengths[j], lengths[i] })
	return lengths
}

// fullCodes tells lengths of many kinds.
func fullCodes() [][]int {
	all := [][]int{{2, 1, 3, 3}, {1, 1}, {0, 1, 0, 0, 1, 0}, {2, 2, 2, 2}, {3, 3, 2, 1, 0}, chain(7), chain(mostLength), alike(256, 8)}
	down := chain(mostLength)
	slices.Reverse(down)
	all = append(all, down)
	r := rand.New(rand.NewSource(4))
	for i := range 60 {
		all = append(all, someFull(r, 3*i, 1+r.Intn(mostLength)))
	}
	return all
}

func TestP4_1Example(t *testing.T) {
	c := made(t, []int{2, 1, 3, 3}, 3, false)
	for s, digits := range []string{"10", "0", "110", "111"} {
		hasWord(t, c, s, digits)
	}
	for _, loose := range []bool{false, true} {
		refused(t, []int{1, 1, 1}, 3, loose, api.ErrCode)
		refused(t, []int{2, 2, 2}, 3, loose, api.ErrCode)
	}
	refused(t, []int{1, 0}, 1, false, api.ErrCode)
	one := made(t, []int{1, 0}, 1, true)
	hasWord(t, one, 0, "0")
	getFails(t, one, reader(t, "1", false), api.ErrForm, 0)
}

func TestP4_1MostFrom1To20(t *testing.T) {
	for _, most := range []int{math.MinInt, -1, 0, 21, 22, math.MaxInt} {
		for _, loose := range []bool{false, true} {
			refused(t, []int{1, 1}, most, loose, api.ErrArg)
			refused(t, []int{0}, most, loose, api.ErrArg)
			refused(t, nil, most, loose, api.ErrArg)
		}
	}
	for most := 1; most <= mostLength; most++ {
		made(t, []int{1, 1}, most, false)
		made(t, chain(most), most, false)
	}
}

func TestP4_1HowManySymbols(t *testing.T) {
	for _, loose := range []bool{false, true} {
		refused(t, nil, 1, loose, api.ErrArg)
		refused(t, []int{}, mostLength, loose, api.ErrArg)
		refused(t, make([]int, mostSymbols+1), 1, loose, api.ErrArg)
		refused(t, append([]int{1, 1}, make([]int, mostSymbols-1)...), 1, loose, api.ErrArg)
		if c := made(t, alike(mostSymbols, 16), 16, loose); c.Symbols() != mostSymbols {
			t.Error(c.Symbols())
		}
		made(t, append([]int{1, 1}, make([]int, mostSymbols-2)...), 1, loose)
	}
	refused(t, []int{1}, 1, false, api.ErrCode)
	refused(t, []int{0}, 1, false, api.ErrCode)
	if c := made(t, []int{1}, 1, true); c.Symbols() != 1 {
		t.Error(c.Symbols())
	}
	if c := made(t, []int{0}, 1, true); c.Symbols() != 1 {
		t.Error(c.Symbols())
	}
}

func TestP4_1LengthsFrom0ToMost(t *testing.T) {
	for _, wrong := range []int{math.MinInt, -20, -1, 3, 4, 20, 21, 64, 1 << 32, 1<<32 + 2, math.MaxInt} {
		for place := range 3 {
			lengths := []int{1, 2, 2}
			lengths[place] = wrong
			refused(t, lengths, 2, false, api.ErrArg)
			refused(t, lengths, 2, true, api.ErrArg)
		}
	}
	for most := 1; most <= mostLength; most++ {
		lengths := chain(most)
		refused(t, lengths, most-1, false, api.ErrArg)
		refused(t, append(lengths, most+1), most, true, api.ErrArg)
	}
}

func TestP4_1ArgumentsAreToldAheadOfLengthsThatAreNoCode(t *testing.T) {
	for _, loose := range []bool{false, true} {
		refused(t, []int{1, 1, 1, -1}, 2, loose, api.ErrArg)
		refused(t, []int{1, 1, 1, 3}, 2, loose, api.ErrArg)
		refused(t, []int{1, 1, 1}, 0, loose, api.ErrArg)
		refused(t, []int{1, 1, 1}, 21, loose, api.ErrArg)
		refused(t, []int{2, 2, 2}, 1, loose, api.ErrArg)
		refused(t, alike(mostSymbols+1, 1), 1, loose, api.ErrArg)
	}
}

func TestP4_1FullOrNot(t *testing.T) {
	var try func(lengths []int, most, symbols int)
	try = func(lengths []int, most, symbols int) {
		if len(lengths) > 0 {
			for _, loose := range []bool{false, true} {
				if want := wanted(lengths, loose); want != api.OK {
					refused(t, lengths, most, loose, want)
				} else {
					made(t, lengths, most, loose)
				}
			}
		}
		if len(lengths) == symbols {
			return
		}
		for length := range most + 1 {
			try(append(slices.Clone(lengths), length), most, symbols)
		}
	}
	try(nil, 1, 6)
	try(nil, 2, 6)
	try(nil, 3, 5)
	try(nil, 4, 4)
}

func TestP4_1OneLengthMoreOrLess(t *testing.T) {
	for _, lengths := range fullCodes() {
		for _, loose := range []bool{false, true} {
			made(t, lengths, mostLength, loose)
			refused(t, append(slices.Clone(lengths), mostLength), mostLength, loose, api.ErrCode)
			if len(lengths) > 2 {
				longest := slices.Index(lengths, slices.Max(lengths))
				if less := slices.Delete(slices.Clone(lengths), longest, longest+1); slices.Max(less) > 1 {
					refused(t, less, mostLength, loose, api.ErrCode)
				}
			}
		}
	}
}

func TestP4_1FarOverFull(t *testing.T) {
	for length := 1; length <= mostLength; length++ {
		want := api.ErrCode
		if length == 16 {
			want = api.OK
		}
		if _, e := prefix.New(alike(mostSymbols, length), mostLength, true); e != want {
			t.Error(length, int(e))
		}
	}
	// what is over-full in the shorter words, but sums up to the same below a power of two
	refused(t, append(alike(4, 1), alike(4, 2)...), 2, false, api.ErrCode)
	refused(t, append(alike(3, 1), 20), mostLength, false, api.ErrCode)
}

func TestP4_1LooseAlone(t *testing.T) {
	for _, symbols := range []int{1, 2, 19, 288, mostSymbols} {
		none := make([]int, symbols)
		refused(t, none, mostLength, false, api.ErrCode)
		made(t, none, mostLength, true)
		for _, place := range []int{0, symbols / 2, symbols - 1} {
			for length := 1; length <= mostLength; length++ {
				one := make([]int, symbols)
				one[place] = length
				refused(t, one, mostLength, false, api.ErrCode)
				if length > 1 {
					refused(t, one, mostLength, true, api.ErrCode)
					continue
				}
				c := made(t, one, mostLength, true)
				hasWord(t, c, place, "0")
				gets(t, c, reader(t, "0", true), place)
			}
		}
	}
	refused(t, []int{2, 2}, 2, true, api.ErrCode)
	refused(t, []int{1, 2}, 2, true, api.ErrCode)
	refused(t, []int{0, 3, 1, 3}, 3, true, api.ErrCode)
}

func TestP4_2Word(t *testing.T) {
	for _, lengths := range fullCodes() {
		for _, loose := range []bool{false, true} {
			c := made(t, lengths, slices.Max(lengths), loose)
			for s, digits := range wordsByDigits(lengths) {
				if digits == "" {
					hasNoWord(t, c, s, api.ErrArg)
				} else {
					hasWord(t, c, s, digits)
				}
			}
		}
	}
}

func TestP4_2WordsOfManySymbols(t *testing.T) {
	c := made(t, alike(mostSymbols, 16), mostLength, false)
	for s := range mostSymbols {
		if word, length, e := c.Word(s); word != uint32(s) || length != 16 || e != api.OK {
			t.Fatal(s, word, length, int(e))
		}
	}
	hasNoWord(t, c, mostSymbols, api.ErrArg)
}

func TestP4_2WordRefuses(t *testing.T) {
	for _, c := range []*prefix.Code{made(t, []int{2, 0, 1, 2}, 3, false), made(t, []int{1, 0, 0, 0}, 3, true), made(t, []int{0, 0, 0, 0}, 3, true)} {
		for _, symbol := range []int{math.MinInt, -1 << 32, -1, 1, 4, 5, 65536, 1 << 32, 1<<32 + 2, math.MaxInt} {
			hasNoWord(t, c, symbol, api.ErrArg)
		}
	}
}

func TestP4_2Symbols(t *testing.T) {
	for _, lengths := range fullCodes() {
		if c := made(t, lengths, mostLength, false); c.Symbols() != len(lengths) {
			t.Error(c.Symbols(), len(lengths))
		}
	}
	for symbols := 1; symbols < 40; symbols++ {
		if c := made(t, make([]int, symbols), 1, true); c.Symbols() != symbols {
			t.Error(c.Symbols(), symbols)
		}
	}
}

func TestP4_2Cost(t *testing.T) {
	c := made(t, []int{2, 1, 3, 3}, 3, false)
	costs(t, c, nil, 0)
	costs(t, c, []int{}, 0)
	costs(t, c, []int{0, 0, 0, 0}, 0)
	costs(t, c, []int{1, 2, 0, 3}, 13)
	costs(t, c, []int{5}, 10)
	costs(t, c, []int{0, 7}, 7)
	costs(t, c, []int{1, 1, 1, 1}, 9)
	gap := made(t, []int{0, 1, 0, 1, 0}, 1, false)
	costs(t, gap, []int{0, 3, 0, 4, 0}, 7)
	costs(t, gap, []int{0}, 0)
	costs(t, made(t, []int{0, 0}, 1, true), []int{0, 0}, 0)
	costs(t, made(t, []int{0, 1}, 1, true), []int{0, 9}, 9)
}

func TestP4_2CostIsWhatPutWrites(t *testing.T) {
	random := rand.New(rand.NewSource(42))
	for _, lengths := range fullCodes() {
		c := made(t, lengths, mostLength, false)
		often := make([]int, len(lengths))
		w := bits.New(random.Intn(2) == 1)
		for range 100 {
			if s := random.Intn(len(lengths)); lengths[s] > 0 {
				often[s]++
				c.Put(w, s)
			}
		}
		costs(t, c, often, w.Len())
	}
}

func TestP4_2CostRefuses(t *testing.T) {
	c := made(t, []int{2, 0, 1, 2}, 2, false)
	for _, often := range [][]int{
		{0, 0, 0, 0, 0}, {1, 0, 1, 1, 0}, {1, 0, 1, 1, 1}, make([]int, 70000),
		{-1}, {0, -1}, {1, 0, -1, 1}, {0, 0, 0, -1}, {math.MinInt}, {0, math.MinInt},
		{0, 1}, {1, 1, 1, 1}, {0, math.MaxInt},
	} {
		costFails(t, c, often, api.ErrArg)
	}
	costFails(t, made(t, []int{0}, 1, true), []int{1}, api.ErrArg)
	costFails(t, made(t, []int{1, 0}, 1, true), []int{1, 1}, api.ErrArg)
}

func TestP4_2CostUpTo2To62(t *testing.T) {
	c := made(t, []int{2, 1, 3, 3}, 3, false)
	costs(t, c, []int{0, mostCost}, mostCost)
	costs(t, c, []int{0, mostCost - 1}, mostCost-1)
	costs(t, c, []int{mostCost / 2}, mostCost)
	costs(t, c, []int{mostCost/2 - 1, 2}, mostCost)
	costs(t, c, []int{1, mostCost - 8, 1, 1}, mostCost)
	costs(t, c, []int{2, 0, (mostCost - 4) / 3, 0}, mostCost)
	for _, often := range [][]int{
		{0, mostCost + 1}, {0, math.MaxInt}, {math.MaxInt}, {mostCost}, {mostCost/2 + 1}, {mostCost / 2, 1},
		{1, mostCost - 7, 1, 1}, {0, 0, (mostCost + 2) / 3}, {0, 0, mostCost, 0}, {0, 0, math.MaxInt/3 + 1},
		{math.MaxInt, math.MaxInt, math.MaxInt, math.MaxInt}, {0, mostCost, 0, 1}, {0, 1, 0, math.MaxInt / 3},
		{0, mostCost, mostCost, mostCost}, {1 << 61, 1 << 61, 1 << 61, 1 << 61},
	} {
		costFails(t, c, often, api.ErrBig)
	}
	long := made(t, chain(mostLength), mostLength, false)
	often := make([]int, mostLength+1)
	often[mostLength] = mostCost / mostLength
	rest := mostCost % mostLength
	often[rest-1] = 1
	costs(t, long, often, mostCost)
	often[0]++
	costFails(t, long, often, api.ErrBig)
	often[0] = 0
	often[mostLength] = math.MaxInt/mostLength + 1 // a product that is no int
	costFails(t, long, often, api.ErrBig)
	often[mostLength] = 1<<63/mostLength*2 + 1 // one that would wrap round to a small number
	costFails(t, long, often, api.ErrBig)
}

func TestP4_2CostOfManySymbols(t *testing.T) {
	c := made(t, alike(mostSymbols, 16), 16, false)
	costs(t, c, alike(mostSymbols, 1), 16*mostSymbols)
	costs(t, c, alike(mostSymbols, mostCost/mostSymbols/16), mostCost)
	costFails(t, c, alike(mostSymbols, mostCost/mostSymbols/16+1), api.ErrBig)
	costFails(t, c, alike(mostSymbols, math.MaxInt), api.ErrBig)
	costFails(t, c, alike(mostSymbols+1, 0), api.ErrArg)
}

func TestP4_2WrongNumbersAreToldAheadOfAGreatCost(t *testing.T) {
	c := made(t, []int{2, 1, 2, 0}, 2, false)
	costFails(t, c, []int{math.MaxInt, math.MaxInt, -1}, api.ErrArg)
	costFails(t, c, []int{math.MaxInt, math.MaxInt, math.MaxInt, 1}, api.ErrArg)
	costFails(t, c, []int{math.MaxInt, 0, 0, 0, 0}, api.ErrArg)
	costFails(t, c, []int{-1, math.MaxInt}, api.ErrArg)
}

func TestP4_3PutWritesTheHighestBitFirst(t *testing.T) {
	c := made(t, []int{2, 1, 3, 3}, 3, false)
	for _, k := range []struct {
		high    bool
		symbols []int
		length  int
		bytes   []byte
	}{
		{true, []int{3, 1}, 4, []byte{0xe0}},
		{false, []int{3, 1}, 4, []byte{0x07}},
		{true, []int{0}, 2, []byte{0x80}},
		{false, []int{0}, 2, []byte{0x01}},
		{true, []int{2, 0, 1, 3}, 9, []byte{0xd3, 0x80}},
		{false, []int{2, 0, 1, 3}, 9, []byte{0xcb, 0x01}},
	} {
		w := bits.New(k.high)
		for _, s := range k.symbols {
			if e := c.Put(w, s); e != api.OK {
				t.Fatal(int(e))
			}
		}
		if b := w.Bytes(); w.Len() != k.length || !bytes.Equal(b, k.bytes) {
			t.Errorf("high %t, %d: % x, %d bits", k.high, k.symbols, b, w.Len())
		}
	}
}

func TestP4_3PutWritesTheWordBehindWhatIsThere(t *testing.T) {
	for _, high := range orders {
		for _, lengths := range fullCodes() {
			c := made(t, lengths, mostLength, false)
			for s, digits := range wordsByDigits(lengths) {
				if digits == "" || s > 60 {
					continue
				}
				w := writer(t, "1011001"[:s%8], high)
				if e := c.Put(w, s); e != api.OK {
					t.Fatal(int(e))
				}
				if got := written(t, w, high); got != "1011001"[:s%8]+digits {
					t.Fatalf("symbol %d: %s, want %s", s, got, digits)
				}
			}
		}
	}
}

func TestP4_3PutRefuses(t *testing.T) {
	c := made(t, []int{2, 0, 1, 2}, 2, false)
	for _, high := range orders {
		w := writer(t, "10110", high)
		for _, symbol := range []int{math.MinInt, -1, 1, 4, 65536, 1<<32 + 2, math.MaxInt} {
			if e := c.Put(w, symbol); e != api.ErrArg {
				t.Errorf("Put of %d: error %d", symbol, int(e))
			}
			for _, none := range []*bits.Writer{nil, {}} {
				if e := c.Put(none, symbol); e != api.ErrNil {
					t.Errorf("Put of %d to no writer: error %d", symbol, int(e))
				}
			}
		}
		if got := written(t, w, high); got != "10110" {
			t.Errorf("what is refused has written: %s", got)
		}
		if e := c.Put(w, 3); e != api.OK || written(t, w, high) != "1011011" {
			t.Error(int(e), written(t, w, high))
		}
	}
	if e := made(t, []int{0}, 1, true).Put(bits.New(true), 0); e != api.ErrArg {
		t.Error(int(e))
	}
}

func TestP4_3PutToNoWriter(t *testing.T) {
	c := made(t, []int{1, 1}, 1, false)
	for _, none := range []*bits.Writer{nil, {}} {
		if e := c.Put(none, 0); e != api.ErrNil {
			t.Error(int(e))
		}
		if none.Len() != 0 || len(none.Bytes()) != 0 {
			t.Error("a writer that no call made was written to")
		}
	}
}

func TestP4_3GetReadsBitByBit(t *testing.T) {
	c := made(t, []int{2, 1, 3, 3}, 3, false)
	for _, k := range []struct {
		high    bool
		bytes   []byte
		symbols []int
		left    int
	}{
		{true, []byte{0xc0}, []int{2, 1, 1, 1, 1, 1}, 0},
		{false, []byte{0x03}, []int{2, 1, 1, 1, 1, 1}, 0},
		{true, []byte{0xd3, 0x80}, []int{2, 0, 1, 3}, 7},
		{false, []byte{0xcb, 0x01}, []int{2, 0, 1, 3}, 7},
	} {
		r := bits.NewReader(k.bytes, k.high)
		for _, s := range k.symbols {
			gets(t, c, r, s)
		}
		if r.Left() != k.left {
			t.Error(k.high, r.Left())
		}
	}
}

func TestP4_3GetReadsJustTheWord(t *testing.T) {
	for _, high := range orders {
		for _, lengths := range fullCodes() {
			c := made(t, lengths, mostLength, false)
			for s, digits := range wordsByDigits(lengths) {
				if digits == "" || s > 60 {
					continue
				}
				for _, behind := range []string{"", "0", "1", "10110"} {
					r := reader(t, digits+behind, high)
					gets(t, c, r, s)
					if r.Left() != len(behind) {
						t.Fatalf("%d bits are left, want %d", r.Left(), len(behind))
					}
				}
			}
		}
	}
}

func TestP4_3GetAtTheEnd(t *testing.T) {
	for _, high := range orders {
		for _, lengths := range fullCodes() {
			c := made(t, lengths, mostLength, false)
			for s, digits := range wordsByDigits(lengths) {
				if s > 30 {
					break
				}
				for n := range len(digits) { // of 0 bits: there is no beginning of a word at all
					r := reader(t, digits[:n], high)
					getFails(t, c, r, api.ErrEnd, 0)
					getFails(t, c, r, api.ErrEnd, 0)
				}
			}
		}
		for _, loose := range [][]int{{1, 0}, {0}, {0, 0, 1}} {
			getFails(t, made(t, loose, 1, true), reader(t, "", high), api.ErrEnd, 0)
		}
	}
}

func TestP4_3GetOfWhatNoWordBeginsWith(t *testing.T) {
	for _, high := range orders {
		one := made(t, []int{0, 1, 0}, 5, true)
		r := reader(t, "0010", high)
		gets(t, one, r, 1)
		gets(t, one, r, 1)
		getFails(t, one, r, api.ErrForm, 1)
		gets(t, one, r, 1)
		getFails(t, one, r, api.ErrEnd, 0)
		none := made(t, []int{0, 0, 0}, 5, true)
		r = reader(t, "01", high)
		getFails(t, none, r, api.ErrForm, 1)
		getFails(t, none, r, api.ErrForm, 0)
		getFails(t, none, r, api.ErrEnd, 0)
	}
}

func TestP4_3GetOfNoReader(t *testing.T) {
	for _, c := range []*prefix.Code{made(t, []int{1, 1}, 1, false), made(t, []int{1}, 1, true), made(t, []int{0}, 1, true)} {
		for _, none := range []*bits.Reader{nil, {}} {
			if s, e := c.Get(none); s != 0 || e != api.ErrNil {
				t.Error(s, int(e))
			}
		}
	}
}

func TestP4_4NoWordIsTheBeginningOfAnother(t *testing.T) {
	codes := fullCodes()
	codes = append(codes, alike(4096, 12))
	for _, lengths := range codes {
		c := made(t, lengths, mostLength, true)
		var words []string
		for s := range c.Symbols() {
			word, length, e := c.Word(s)
			if e != api.OK {
				continue
			}
			if length != lengths[s] || word>>length != 0 {
				t.Fatal(s, word, length)
			}
			digits := strconv.FormatUint(uint64(word), 2)
			words = append(words, strings.Repeat("0", max(0, length-len(digits)))+digits)
		}
		sort.Strings(words) // a beginning stands right ahead of one that goes on
		for i := range len(words) - 1 {
			if strings.HasPrefix(words[i+1], words[i]) && len(words[i]) > 0 {
				t.Fatalf("%s is the beginning of %s", words[i], words[i+1])
			}
		}
	}
}

func TestP4_4WhatIsPutIsGotAgain(t *testing.T) {
	random := rand.New(rand.NewSource(7))
	codes := append(fullCodes(), []int{0, 1}, alike(mostSymbols, 16))
	for _, high := range orders {
		for _, lengths := range codes {
			c := made(t, lengths, mostLength, true)
			w := bits.New(high)
			var put []int
			for len(put) < 300 {
				s := random.Intn(len(lengths))
				if lengths[s] == 0 {
					continue
				}
				if e := c.Put(w, s); e != api.OK {
					t.Fatal(int(e))
				}
				put = append(put, s)
			}
			r := bits.NewReader(w.Bytes(), high)
			for _, s := range put {
				gets(t, c, r, s)
			}
			if r.At() != w.Len() {
				t.Fatal(r.At(), w.Len())
			}
		}
	}
}

func TestP4_4WordsOfLength20(t *testing.T) {
	c := made(t, chain(mostLength), mostLength, false)
	hasWord(t, c, 19, strings.Repeat("1", 19)+"0")
	hasWord(t, c, 20, strings.Repeat("1", 20))
	for _, high := range orders {
		w := bits.New(high)
		for s := range mostLength + 1 {
			if e := c.Put(w, s); e != api.OK {
				t.Fatal(int(e))
			}
		}
		r := bits.NewReader(w.Bytes(), high)
		for s := range mostLength + 1 {
			gets(t, c, r, s)
		}
	}
	// as many words of length 20 as symbols may be, beside four that fill the rest
	lengths := append(alike(mostSymbols-4, mostLength), 1, 2, 3, 4)
	refused(t, lengths, mostLength, false, api.ErrCode)
	lengths = append(alike(mostSymbols-32, mostLength), 1, 2, 3, 4)
	for length := 16; length <= 20; length++ {
		lengths = append(lengths, length)
	}
	for space(lengths) < 1<<mostLength {
		lengths = append(lengths, mostLength)
	}
	if len(lengths) > mostSymbols {
		t.Fatal(len(lengths))
	}
	many := made(t, lengths, mostLength, false)
	for s, digits := range wordsByDigits(lengths) {
		hasWord(t, many, s, digits)
	}
	gets(t, many, reader(t, strings.Repeat("1", mostLength), true), len(lengths)-1)
}

func TestRule1CodesThatNoCallMade(t *testing.T) {
	for _, c := range []*prefix.Code{nil, {}, new(prefix.Code)} {
		for _, symbol := range []int{0, -1, math.MaxInt} {
			hasNoWord(t, c, symbol, api.ErrNil)
			for _, high := range orders {
				w := writer(t, "101", high)
				if e := c.Put(w, symbol); e != api.ErrNil || written(t, w, high) != "101" {
					t.Error(int(e), written(t, w, high))
				}
			}
			if e := c.Put(nil, symbol); e != api.ErrNil {
				t.Error(int(e))
			}
		}
		getFails(t, c, reader(t, "1011", true), api.ErrNil, 4)
		getFails(t, c, reader(t, "", true), api.ErrNil, 0)
		if s, e := c.Get(nil); s != 0 || e != api.ErrNil {
			t.Error(s, int(e))
		}
		if c.Symbols() != 0 {
			t.Error(c.Symbols())
		}
		for _, often := range [][]int{nil, {}, {1}, {-1}, {math.MaxInt, math.MaxInt}} {
			costFails(t, c, often, api.ErrNil)
		}
	}
}

func TestRule2WhatIsRefusedChangesNothing(t *testing.T) {
	lengths := []int{2, 0, 1, 2}
	c := made(t, lengths, 2, false)
	for range 2 {
		hasWord(t, c, 0, "10")
		hasWord(t, c, 2, "0")
		hasWord(t, c, 3, "11")
		hasNoWord(t, c, 1, api.ErrArg)
		costFails(t, c, []int{-1}, api.ErrArg)
		costFails(t, c, []int{math.MaxInt}, api.ErrBig)
		costs(t, c, []int{1, 0, 1, 1}, 5)
		getFails(t, c, reader(t, "1", true), api.ErrEnd, 0)
		gets(t, c, reader(t, "11", true), 3)
		c.Put(nil, 0)
		c.Put(bits.New(true), 1)
		if c.Symbols() != 4 {
			t.Error(c.Symbols())
		}
	}
}

func TestRule4ListsStayAsTheyAreAndAreNotKept(t *testing.T) {
	room := []int{2, 1, 3, 3, 77, 78}
	c := made(t, room[:4], 3, false)
	if !slices.Equal(room, []int{2, 1, 3, 3, 77, 78}) {
		t.Fatal(room)
	}
	for i := range room {
		room[i] = 1
	}
	for s, digits := range []string{"10", "0", "110", "111"} {
		hasWord(t, c, s, digits)
	}
	gets(t, c, reader(t, "111", true), 3)
	often := []int{1, 2, 0, 3, 55, 56}
	costs(t, c, often[:4], 13)
	costs(t, c, often[:2], 4)
	if !slices.Equal(often, []int{1, 2, 0, 3, 55, 56}) {
		t.Error(often)
	}
	wrong := []int{1, 1, 1, 9}
	refused(t, wrong[:3], 1, false, api.ErrCode)
	if !slices.Equal(wrong, []int{1, 1, 1, 9}) {
		t.Error(wrong)
	}
}

func TestRule5CodesAreApart(t *testing.T) {
	a, b := made(t, []int{2, 1, 2}, 2, false), made(t, []int{1, 2, 2}, 2, false)
	hasWord(t, a, 0, "10")
	hasWord(t, b, 0, "0")
	for _, high := range orders {
		r := reader(t, "1010", high)
		gets(t, a, r, 0)
		gets(t, b, r, 1)
	}
	again := made(t, []int{2, 1, 2}, 2, true)
	for s := range 3 {
		word, length, _ := a.Word(s)
		if w, l, e := again.Word(s); w != word || l != length || e != api.OK {
			t.Error(s, w, l, int(e))
		}
	}
}
