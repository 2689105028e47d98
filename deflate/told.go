package deflate

import (
	"slices"

	"hamper/api"
	"hamper/bits"
	"hamper/inflate"
	"hamper/limit"
	"hamper/prefix"
)

const (
	leastSymbols   = blockEnd + 1 // lengths that a block tells at least
	leastDistances = 1
	leastInner     = 4
	mostInnerWord  = 7 // bits of a word of the inner code, by which lengths are told

	repeatAhead = 16 // symbols of the inner code that stand for several lengths
	fewNoughts  = 17
	manyNoughts = 18
)

// Runs tells how lengths are told: symbols, each with what its bits are.
func Runs(lengths []int) (symbols, more []int) {
	for _, x := range runWords(lengths) {
		symbols = append(symbols, x.symbol)
		more = append(more, x.more)
	}
	return symbols, more
}

// runWords tells the words by which lengths are told.
func runWords(lengths []int) []word {
	var words []word
	for at := 0; at < len(lengths); {
		again := at > 0 && lengths[at-1] == lengths[at]
		x, times := firstRun(lengths[at:], again)
		words = append(words, x)
		at += times
	}
	return words
}

// firstRun tells the word of the first of lengths, and how many it stands for; again is whether the length ahead of them is like the first.
func firstRun(lengths []int, again bool) (x word, times int) {
	first := lengths[0]
	if first == 0 {
		times = alike(lengths, 138)
		if times >= 11 {
			return word{manyNoughts, times - 11, 7}, times
		}
		if times >= 3 {
			return word{fewNoughts, times - 3, 3}, times
		}
	}
	if first > 0 && again {
		times = alike(lengths, 6)
		if times >= 3 {
			return word{repeatAhead, times - 3, 2}, times
		}
	}
	return word{symbol: first}, 1
}

// alike tells how many lengths are like the first one, without a gap, at most so many.
func alike(lengths []int, most int) int {
	n := 1
	for n < min(most, len(lengths)) && lengths[n] == lengths[0] {
		n++
	}
	return n
}

// ownCodes are codes that fit a block, and all that tells them.
type ownCodes struct {
	codes
	fields []field // what stands ahead of their lengths
	runs   []word  // their lengths
	inner  *prefix.Code
}

// field is a number of so many bits.
type field struct {
	value, size int
}

// newOwnCodes makes the codes that fit tokens best.
func newOwnCodes(tokens []api.Token) *ownCodes {
	near, far := make([]int, lastLength+1), make([]int, lastDistance+1)
	eachWord(tokens, func(x word) { near[x.symbol]++ }, func(x word) { far[x.symbol]++ })
	symbols := trim(bestLengths(near, mostWord), leastSymbols)
	distances := trim(bestLengths(far, mostWord), leastDistances)
	runs := runWords(slices.Concat(symbols, distances))
	inner := innerLengths(runs)
	own := &ownCodes{codes: newCodes(symbols, distances), runs: runs, fields: headFields(len(symbols), len(distances), inner)}
	own.inner, _ = prefix.New(inner, mostInnerWord, false)
	return own
}

// innerLengths tells the lengths of the inner code that fits runs best. It is a full one: at least two symbols come, as no single one tells all lengths of a block.
func innerLengths(runs []word) []int {
	often := make([]int, manyNoughts+1)
	for _, x := range runs {
		often[x.symbol]++
	}
	return bestLengths(often, mostInnerWord)
}

// bestLengths is limit.Lengths of symbols that are few and do not come too often, so that there is no error.
func bestLengths(often []int, most int) []int {
	lengths, _ := limit.Lengths(often, most)
	return lengths
}

// trim leaves out trailing noughts, but for the first lengths, so many as must stay.
func trim(lengths []int, stay int) []int {
	n := len(lengths)
	for n > stay && lengths[n-1] == 0 {
		n--
	}
	return lengths[:n]
}

// headFields tells how many lengths come, and the inner code's lengths.
func headFields(symbols, distances int, inner []int) []field {
	var ordered []int
	for _, symbol := range inflate.Order() {
		ordered = append(ordered, inner[symbol])
	}
	ordered = trim(ordered, leastInner)
	fields := []field{{symbols - leastSymbols, 5}, {distances - leastDistances, 5}, {len(ordered) - leastInner, 4}}
	for _, length := range ordered {
		fields = append(fields, field{length, 3})
	}
	return fields
}

// weighHead tells how many bits it takes to tell the codes.
func (own *ownCodes) weighHead() int {
	sum := 0
	for _, f := range own.fields {
		sum += f.size
	}
	for _, x := range own.runs {
		sum += x.weigh(own.inner)
	}
	return sum
}

// putHead tells the codes.
func (own *ownCodes) putHead(w *bits.Writer) {
	for _, f := range own.fields {
		w.Put(uint64(f.value), f.size)
	}
	for _, x := range own.runs {
		x.put(w, own.inner)
	}
}
