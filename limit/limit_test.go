package limit_test

import (
	"container/heap"
	"math"
	"math/rand"
	"slices"
	"sort"
	"testing"

	"hamper/api"
	"hamper/limit"
)

const (
	mostLength  = 20
	mostSymbols = 65536
	mostSum     = 1 << 40
	mostCost    = 1 << 62
)

// coin is one of the document's: what it is worth, and the symbols that are in it, each as often as it is.
type coin struct {
	worth   int
	symbols []int
}

// lengthsByCoins tells the lengths by the document's words alone: real packages, a sort in place of the merging, and at least two symbols that come.
func lengthsByCoins(often []int, most int) []int {
	var symbols []coin
	for s, times := range often {
		if times > 0 {
			symbols = append(symbols, coin{times, []int{s}})
		}
	}
	sort.SliceStable(symbols, func(i, j int) bool { return symbols[i].worth < symbols[j].worth })
	coins := symbols
	for range most - 1 {
		next := slices.Clone(symbols)
		for i := 0; i+1 < len(coins); i += 2 {
			next = append(next, coin{coins[i].worth + coins[i+1].worth, slices.Concat(coins[i].symbols, coins[i+1].symbols)})
		}
		sort.SliceStable(next, func(i, j int) bool { return next[i].worth < next[j].worth })
		coins = next
	}
	lengths := make([]int, len(often))
	for _, c := range coins[:2*len(symbols)-2] {
		for _, s := range c.symbols {
			lengths[s]++
		}
	}
	return lengths
}

// leastCost tries every full code that gives each symbol that comes a word of at most most bits (the others none: their words would only take room), and tells what the cheapest costs.
func leastCost(often []int, most int) int {
	var come []int
	for _, times := range often {
		if times > 0 {
			come = append(come, times)
		}
	}
	best := math.MaxInt
	var try func(i, room, cost int)
	try = func(i, room, cost int) {
		if i == len(come) {
			if room == 0 {
				best = min(best, cost)
			}
			return
		}
		for length := 1; length <= most; length++ {
			if part := 1 << (most - length); part <= room {
				try(i+1, room-part, cost+come[i]*length)
			}
		}
	}
	try(0, 1<<most, 0)
	return best
}

// leastWithIdle is leastCost with full codes that give symbols that never come words, too.
func leastWithIdle(often []int, most int) int {
	best := math.MaxInt
	var try func(i, room, cost int)
	try = func(i, room, cost int) {
		if i == len(often) {
			if room == 0 {
				best = min(best, cost)
			}
			return
		}
		if often[i] == 0 {
			try(i+1, room, cost)
		}
		for length := 1; length <= most; length++ {
			if part := 1 << (most - length); part <= room {
				try(i+1, room-part, cost+often[i]*length)
			}
		}
	}
	try(0, 1<<most, 0)
	return best
}

type heapOfInts []int

func (h heapOfInts) Len() int           { return len(h) }
func (h heapOfInts) Less(i, j int) bool { return h[i] < h[j] }
func (h heapOfInts) Swap(i, j int)      { h[i], h[j] = h[j], h[i] }
func (h *heapOfInts) Push(x any)        { *h = append(*h, x.(int)) }
func (h *heapOfInts) Pop() any {
	last := (*h)[len(*h)-1]
	*h = (*h)[:len(*h)-1]
	return last
}

// freeCost tells what the best code of words of any length costs, by joining the two least again and again.
func freeCost(often []int) int {
	h := heapOfInts{}
	for _, times := range often {
		if times > 0 {
			h = append(h, times)
		}
	}
	heap.Init(&h)
	cost := 0
	for h.Len() > 1 {
		both := heap.Pop(&h).(int) + heap.Pop(&h).(int)
		cost += both
		heap.Push(&h, both)
	}
	return cost
}

func lengthsOf(t *testing.T, often []int, most int) []int {
	t.Helper()
	lengths, e := limit.Lengths(often, most)
	if e != api.OK || len(lengths) != len(often) {
		t.Fatalf("Lengths of %d numbers, most %d: %d lengths, error %d", len(often), most, len(lengths), int(e))
	}
	return lengths
}

func tells(t *testing.T, often []int, most int, want ...int) {
	t.Helper()
	if lengths, e := limit.Lengths(often, most); e != api.OK || !slices.Equal(lengths, want) {
		t.Errorf("Lengths(%v, %d) = %v, error %d, want %v", often, most, lengths, int(e), want)
	}
}

func refuses(t *testing.T, often []int, most int, want api.Errno) {
	t.Helper()
	if lengths, e := limit.Lengths(often, most); e != want || lengths != nil && len(lengths) > 0 {
		t.Errorf("Lengths of %d numbers, most %d: %d lengths, error %d, want error %d", len(often), most, len(lengths), int(e), int(want))
	}
}

func costs(t *testing.T, often, lengths []int, want int, wantError api.Errno) {
	t.Helper()
	if cost, e := limit.Cost(often, lengths); cost != want || e != wantError {
		t.Errorf("Cost(%v, %v) = %d, error %d, want %d, error %d", often, lengths, cost, int(e), want, int(wantError))
	}
}

// full checks that just those that come have words, none above most, and that the words leave no room and need no more.
func full(t *testing.T, often, lengths []int, most int) {
	t.Helper()
	room := 1 << mostLength
	for s, length := range lengths {
		if length < 0 || length > most || (length > 0) != (often[s] > 0) {
			t.Fatalf("symbol %d comes %d times: length %d, most %d", s, often[s], length, most)
		}
		if length > 0 {
			room -= 1 << (mostLength - length)
		}
	}
	if room != 0 {
		t.Fatalf("the code of %d symbols, most %d, is not full: %d of 2^20 are left", len(often), most, room)
	}
}

// eachList tells every list of so many numbers from 0 to top.
func eachList(count, top int, tell func([]int)) {
	list := make([]int, count)
	for {
		tell(list)
		i := 0
		for ; i < count && list[i] == top; i++ {
			list[i] = 0
		}
		if i == count {
			return
		}
		list[i]++
	}
}

func comeIn(often []int) int {
	come := 0
	for _, times := range often {
		if times > 0 {
			come++
		}
	}
	return come
}

// all tells so many numbers, each the same.
func all(count, number int) []int { return slices.Repeat([]int{number}, count) }

func fibonacci(count int) []int {
	list := []int{1, 1}
	for len(list) < count {
		list = append(list, list[len(list)-1]+list[len(list)-2])
	}
	return list[:count]
}

func TestP5_1LengthsExamples(t *testing.T) {
	tells(t, []int{1, 1, 2, 4}, 3, 3, 3, 2, 1)
	tells(t, []int{1, 1, 2, 4}, 2, 2, 2, 2, 2)
	tells(t, []int{0, 5}, 3, 0, 1)
	refuses(t, []int{1, 1, 1}, 1, api.ErrCode)
}

func TestP5_1LengthsOfFew(t *testing.T) {
	for most := 1; most <= mostLength; most++ {
		tells(t, nil, most)
		tells(t, []int{}, most)
		tells(t, []int{0}, most, 0)
		tells(t, all(3, 0), most, 0, 0, 0)
		tells(t, []int{mostSum}, most, 1)
		tells(t, []int{0, 0, 7, 0}, most, 0, 0, 1, 0)
		tells(t, []int{9, 1}, most, 1, 1)
		tells(t, []int{0, mostSum - 1, 0, 1}, most, 0, 1, 0, 1)
	}
}

func TestP5_1LengthsOfEqualWorth(t *testing.T) {
	tells(t, []int{1, 1, 1}, 2, 2, 2, 1) // of equal numbers the first symbols are taken first
	tells(t, []int{1, 1, 1}, 20, 2, 2, 1)
	tells(t, []int{5, 0, 5, 5}, 3, 2, 0, 2, 1)
	tells(t, []int{2, 1, 1}, 2, 1, 2, 2)
	tells(t, []int{2, 2, 1, 1}, 3, 2, 2, 2, 2) // a package of 2 stands behind the symbols of 2
	tells(t, []int{1, 1, 2, 2}, 3, 2, 2, 2, 2)
	tells(t, []int{2, 1, 1, 3}, 3, 2, 3, 3, 1)
	tells(t, []int{4, 2, 1, 1}, 3, 1, 2, 3, 3)
	tells(t, []int{3, 3, 2, 2, 1, 1}, 3, 2, 2, 3, 3, 3, 3)
	tells(t, all(8, 3), 3, 3, 3, 3, 3, 3, 3, 3, 3)
	tells(t, all(5, 1), 3, 3, 3, 2, 2, 2) // with an odd number of coins in two rounds
	tells(t, all(7, 1), 20, 3, 3, 3, 3, 3, 3, 2)
}

func TestP5_1LengthsByTheWordsOfTheDocument(t *testing.T) {
	for count := 2; count <= 6; count++ {
		eachList(count, 3, func(often []int) {
			for most := 1; most <= 5; most++ {
				if come := comeIn(often); come >= 2 && come <= 1<<most {
					tells(t, often, most, lengthsByCoins(often, most)...)
				}
			}
		})
	}
	r := rand.New(rand.NewSource(5))
	for range 2000 {
		most := 1 + r.Intn(12)
		often := make([]int, 2+r.Intn(40))
		top := 1 << (1 + r.Intn(20))
		for s := range often {
			if often[s] = r.Intn(top); r.Intn(3) == 0 {
				often[s] = r.Intn(4)
			}
		}
		if come := comeIn(often); come >= 2 && come <= 1<<most {
			tells(t, often, most, lengthsByCoins(often, most)...)
		}
	}
	for most := 5; most <= 15; most++ {
		tells(t, fibonacci(30), most, lengthsByCoins(fibonacci(30), most)...)
	}
}

func TestP5_1LengthsOfJustEnoughRoom(t *testing.T) {
	r := rand.New(rand.NewSource(51))
	for most := 1; most <= 16; most++ {
		often := make([]int, 1<<most)
		for s := range often {
			often[s] = 1 + r.Intn(1<<20)
		}
		tells(t, often, most, all(1<<most, most)...)
		if len(often) < mostSymbols {
			refuses(t, append(slices.Clone(often), 1), most, api.ErrCode)
			tells(t, append(slices.Clone(often), 0), most, append(all(1<<most, most), 0)...) // what does not come takes no room
		}
	}
	refuses(t, all(mostSymbols, 1), 15, api.ErrCode)
	refuses(t, all(mostSymbols, 1), 1, api.ErrCode)
	refuses(t, append(all(40000, 0), all(3, 1)...), 1, api.ErrCode)
}

func TestP5_1LengthsOfMany(t *testing.T) {
	tells(t, all(mostSymbols, 1), 16, all(mostSymbols, 16)...)
	tells(t, all(mostSymbols, 0), 1, all(mostSymbols, 0)...)
	one := all(mostSymbols, 0)
	one[mostSymbols-1] = 3
	tells(t, one, 1, append(all(mostSymbols-1, 0), 1)...)
	often := make([]int, mostSymbols)
	r := rand.New(rand.NewSource(52))
	for s := range often {
		often[s] = 1 + r.Intn(1<<r.Intn(24))
	}
	for _, most := range []int{16, 17, 20} {
		full(t, often, lengthsOf(t, often, most), most)
	}
}

func TestP5_1LengthsWrong(t *testing.T) {
	for _, most := range []int{0, 21, -1, math.MinInt, math.MaxInt, 64, 1 << 32} {
		refuses(t, []int{1, 1}, most, api.ErrArg)
		refuses(t, nil, most, api.ErrArg)
	}
	for _, number := range []int{-1, math.MinInt} {
		refuses(t, []int{number}, 3, api.ErrArg)
		refuses(t, []int{1, 2, number}, 3, api.ErrArg)
		refuses(t, []int{number, 1, 2}, 3, api.ErrArg)
	}
	refuses(t, all(mostSymbols+1, 0), 20, api.ErrArg)
	refuses(t, all(mostSymbols+1, 1), 20, api.ErrArg)
}

func TestP5_1LengthsOfTooMuch(t *testing.T) {
	tells(t, []int{mostSum - 3, 1, 2}, 2, 1, 2, 2)
	tells(t, []int{mostSum}, 1, 1)
	tells(t, []int{1 << 39, 1 << 39}, 1, 1, 1)
	tells(t, all(1<<10, 1<<30), 20, all(1<<10, 10)...) // just 2^40 in all
	refuses(t, []int{mostSum + 1}, 1, api.ErrBig)
	refuses(t, []int{mostSum, 1}, 1, api.ErrBig)
	refuses(t, []int{1, mostSum}, 1, api.ErrBig)
	refuses(t, []int{mostSum - 3, 2, 2}, 2, api.ErrBig)
	refuses(t, append(all(1<<10, 1<<30), 1), 20, api.ErrBig)
	refuses(t, []int{math.MaxInt}, 20, api.ErrBig)
	refuses(t, []int{math.MaxInt, math.MaxInt}, 20, api.ErrBig)
	refuses(t, []int{math.MaxInt, math.MaxInt, 2}, 20, api.ErrBig) // their sum wraps round to 0
	refuses(t, []int{1 << 62, 1 << 62, 1 << 62, 1 << 62, 1, 1}, 20, api.ErrBig)
}

func TestRule2LengthsErrorsInOrder(t *testing.T) {
	refuses(t, []int{math.MaxInt, math.MaxInt}, 0, api.ErrArg)
	refuses(t, []int{math.MaxInt, math.MaxInt, -1}, 1, api.ErrArg)
	refuses(t, []int{1, 1, 1, -1}, 1, api.ErrArg)
	refuses(t, []int{1, 1, 1}, 0, api.ErrArg)
	refuses(t, all(mostSymbols+1, 1), 1, api.ErrArg)
	refuses(t, all(mostSymbols+1, mostSum), 1, api.ErrArg)
	refuses(t, []int{mostSum, 1, 1}, 1, api.ErrBig)
	refuses(t, []int{1, 1, math.MaxInt}, 1, api.ErrBig)
}

func TestP5_2Cost(t *testing.T) {
	costs(t, []int{1, 1, 2, 4}, []int{3, 3, 2, 1}, 14, api.OK)
	costs(t, nil, nil, 0, api.OK)
	costs(t, []int{}, nil, 0, api.OK)
	costs(t, []int{0, 7}, []int{9, 0}, 0, api.OK)
	costs(t, []int{3}, []int{1000}, 3000, api.OK) // lengths that no code has
	many := all(mostSymbols+1, 2)
	if cost, e := limit.Cost(many, many); cost != 4*(mostSymbols+1) || e != api.OK {
		t.Errorf("Cost of %d numbers = %d, error %d", len(many), cost, int(e))
	}
}

func TestP5_2CostWrong(t *testing.T) {
	costs(t, []int{1}, nil, 0, api.ErrArg)
	costs(t, nil, []int{1}, 0, api.ErrArg)
	costs(t, []int{1, 2}, []int{1, 2, 0}, 0, api.ErrArg)
	costs(t, []int{1, 2, 0}, []int{1, 2}, 0, api.ErrArg)
	for _, number := range []int{-1, math.MinInt} {
		costs(t, []int{number, 1}, []int{1, 1}, 0, api.ErrArg)
		costs(t, []int{1, number}, []int{1, 0}, 0, api.ErrArg)
		costs(t, []int{1, 1}, []int{number, 1}, 0, api.ErrArg)
		costs(t, []int{1, 0}, []int{1, number}, 0, api.ErrArg)
		costs(t, []int{number}, []int{number}, 0, api.ErrArg)
	}
}

func TestP5_2CostOfTooMuch(t *testing.T) {
	costs(t, []int{1 << 62}, []int{1}, mostCost, api.OK)
	costs(t, []int{1}, []int{1 << 62}, mostCost, api.OK)
	costs(t, []int{1 << 31}, []int{1 << 31}, mostCost, api.OK)
	costs(t, []int{1 << 61, 1, 1<<61 - 1}, []int{1, 1, 1}, mostCost, api.OK)
	costs(t, []int{math.MaxInt, 0}, []int{0, math.MaxInt}, 0, api.OK)
	costs(t, []int{1 << 62, math.MaxInt, 0}, []int{1, 0, math.MaxInt}, mostCost, api.OK)
	costs(t, []int{1<<62 + 1}, []int{1}, 0, api.ErrBig)
	costs(t, []int{1 << 62, 1}, []int{1, 1}, 0, api.ErrBig)
	costs(t, []int{1, 1 << 62}, []int{1, 1}, 0, api.ErrBig)
	costs(t, []int{1 << 61, 2, 1<<61 - 1}, []int{1, 1, 1}, 0, api.ErrBig)
	costs(t, []int{1<<31 + 1}, []int{1 << 31}, 0, api.ErrBig)
	costs(t, []int{3}, []int{mostCost/3 + 1}, 0, api.ErrBig)
	costs(t, []int{1 << 32}, []int{1 << 32}, 0, api.ErrBig)               // their product wraps round to 0
	costs(t, []int{math.MaxInt}, []int{math.MaxInt}, 0, api.ErrBig)       // and to 1
	costs(t, all(4, 1<<62), all(4, 1), 0, api.ErrBig)                     // the sum wraps round to 0
	costs(t, []int{math.MaxInt, 1, 1}, []int{1, 1, 1}, 0, api.ErrBig)     // and below 0
	costs(t, []int{math.MaxInt, math.MaxInt}, []int{2, 2}, 0, api.ErrBig) // both
}

func TestRule2CostErrorsInOrder(t *testing.T) {
	costs(t, all(2, math.MaxInt), all(3, math.MaxInt), 0, api.ErrArg)
	costs(t, []int{math.MaxInt, -1}, []int{math.MaxInt, 1}, 0, api.ErrArg)
	costs(t, []int{math.MaxInt, 1}, []int{math.MaxInt, -1}, 0, api.ErrArg)
}

func TestP5_3NoFullCodeCostsLess(t *testing.T) {
	try := func(often []int) {
		for most := 1; most <= 5; most++ {
			if come := comeIn(often); come < 2 || come > 1<<most {
				continue
			}
			lengths := lengthsOf(t, often, most)
			full(t, often, lengths, most)
			if cost, e := limit.Cost(often, lengths); e != api.OK || cost != leastCost(often, most) {
				t.Fatalf("Lengths(%v, %d) = %v cost %d, the least is %d", often, most, lengths, cost, leastCost(often, most))
			}
		}
	}
	eachList(4, 5, try)
	eachList(5, 3, try)
	r := rand.New(rand.NewSource(53))
	for range 200 {
		often := make([]int, 6+r.Intn(2))
		for s := range often {
			often[s] = r.Intn(1 << r.Intn(12))
		}
		try(often)
	}
	try(fibonacci(8))
}

func TestP5_3NorWithWordsForThoseThatNeverCome(t *testing.T) {
	eachList(4, 3, func(often []int) {
		for most := 1; most <= 4; most++ {
			if come := comeIn(often); come < 2 || come > 1<<most {
				continue
			}
			lengths := lengthsOf(t, often, most)
			if cost, _ := limit.Cost(often, lengths); cost > leastWithIdle(often, most) {
				t.Fatalf("Lengths(%v, %d) = %v cost %d, the least is %d", often, most, lengths, cost, leastWithIdle(often, most))
			}
		}
	})
}

func TestP5_3BestOfMany(t *testing.T) {
	r := rand.New(rand.NewSource(54))
	for range 60 {
		often := make([]int, 2+r.Intn(3000))
		for s := range often {
			often[s] = r.Intn(50) // so few unlike numbers that no word of the best code is long
		}
		if comeIn(often) < 2 {
			continue
		}
		lengths := lengthsOf(t, often, mostLength)
		full(t, often, lengths, mostLength)
		if cost, _ := limit.Cost(often, lengths); cost != freeCost(often) {
			t.Fatalf("of %d symbols: cost %d, the best code of any length has %d", len(often), cost, freeCost(often))
		}
	}
	for count := 2; count <= 50; count++ { // the words of the best code are as long as may be, and longer from 22 on
		often := fibonacci(count)
		lengths := lengthsOf(t, often, mostLength)
		full(t, often, lengths, mostLength)
		cost, _ := limit.Cost(often, lengths)
		if free := freeCost(often); count <= 21 && cost != free || count > 21 && cost <= free {
			t.Errorf("of %d Fibonacci numbers: cost %d, the best code of any length has %d", count, cost, free)
		}
	}
}

func TestP5_3MoreRoomNeverCostsMore(t *testing.T) {
	r := rand.New(rand.NewSource(55))
	for range 50 {
		often := make([]int, 200)
		for s := range often {
			often[s] = r.Intn(1 << r.Intn(30))
		}
		last := math.MaxInt
		for most := 8; most <= mostLength; most++ {
			lengths := lengthsOf(t, often, most)
			full(t, often, lengths, most)
			cost, _ := limit.Cost(often, lengths)
			if cost > last {
				t.Fatalf("most %d costs %d, most %d cost %d", most, cost, most-1, last)
			}
			last = cost
		}
	}
}

func TestRule4NothingIsChangedOrKept(t *testing.T) {
	room := []int{9, 9, 4, 0, 1, 2, 1, 7, 7}
	before := slices.Clone(room)
	often := room[2:7]
	first := lengthsOf(t, often, 4)
	if !slices.Equal(room, before) {
		t.Fatalf("Lengths changed what it was given: %v", room)
	}
	want := slices.Clone(first)
	spare := first[:cap(first)]
	for i := range spare {
		spare[i] = 77
	}
	if !slices.Equal(room, before) {
		t.Fatal("the answer shares memory with what was handed in")
	}
	if again := lengthsOf(t, often, 4); !slices.Equal(again, want) {
		t.Fatalf("a second call answers %v, want %v", again, want)
	}
	lengths := []int{8, 3, 0, 2, 1, 3, 8}
	lengthsBefore := slices.Clone(lengths)
	if cost, e := limit.Cost(often, lengths[1:6]); e != api.OK || cost != 4*3+2*1+1*2+1*3 {
		t.Errorf("Cost(%v, %v) = %d, error %d", often, lengths[1:6], cost, int(e))
	}
	if !slices.Equal(room, before) || !slices.Equal(lengths, lengthsBefore) {
		t.Errorf("Cost changed what it was given: %v, %v", room, lengths)
	}
}

func TestRule5SameNumbersSameAnswer(t *testing.T) {
	r := rand.New(rand.NewSource(56))
	often := make([]int, 5000)
	for s := range often {
		often[s] = r.Intn(9)
	}
	want := lengthsOf(t, often, 14)
	for range 5 {
		if !slices.Equal(lengthsOf(t, slices.Clone(often), 14), want) {
			t.Fatal("the same numbers gave other lengths")
		}
	}
}
