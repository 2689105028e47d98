package suffix_test

import (
	"bytes"
	"math"
	"math/rand"
	"slices"
	"strings"
	"testing"

	"hamper/api"
	"hamper/suffix"
)

// cut tells what of a text an error shows.
func cut[T any](l []T) []T { return l[:min(len(l), 40)] }

// roomy copies bytes into memory with more bytes behind them.
func roomy(b []byte) []byte {
	return append(bytes.Clone(b), 0x00, 0xa5, 0xff)[:len(b)]
}

// sameRoom is whether bytes, and those behind them, are as roomy left them.
func sameRoom(given, b []byte) bool {
	return bytes.Equal(given[:len(b)+3], roomy(b)[:len(b)+3])
}

// told asks Rows or Next for its numbers, and whether what was handed in, and the room behind it, stayed as it was.
func told(t *testing.T, name string, call func([]byte) ([]int, api.Errno), b []byte) []int {
	t.Helper()
	given := roomy(b)
	l, e := call(given)
	if e != api.OK || !sameRoom(given, b) {
		t.Fatalf("%s(%q, %d bytes) = %v, or it changed what was handed in", name, cut(b), len(b), e)
	}
	return l
}

func rows(t *testing.T, b []byte) []int { return told(t, "Rows", suffix.Rows, b) }

func next(t *testing.T, column []byte) []int { return told(t, "Next", suffix.Next, column) }

// turn asks for the column and the row, and whether what was handed in, and the room behind it, stayed as it was.
func turn(t *testing.T, b []byte) ([]byte, int) {
	t.Helper()
	given := roomy(b)
	column, row, e := suffix.Turn(given)
	if e != api.OK || !sameRoom(given, b) {
		t.Fatalf("Turn(%q, %d bytes) = %v, or it changed what was handed in", cut(b), len(b), e)
	}
	return column, row
}

// back asks for the text, and whether what was handed in, and the room behind it, stayed as it was.
func back(t *testing.T, column []byte, row int) ([]byte, api.Errno) {
	t.Helper()
	given := roomy(column)
	b, e := suffix.Back(given, row)
	if !sameRoom(given, column) {
		t.Errorf("Back(%q, %d) changed what was handed in", cut(column), row)
	}
	if e != api.OK && len(b) != 0 {
		t.Errorf("Back(%q, %d) = %q beside %v", cut(column), row, cut(b), e)
	}
	return b, e
}

// checkText holds Rows and Turn against the model, and asks for the text again (P10.4).
func checkText(t *testing.T, b []byte) {
	t.Helper()
	if l, want := rows(t, b), rowsByWords(b); !slices.Equal(l, want) {
		t.Fatalf("Rows(%q, %d bytes) = %v, want %v", cut(b), len(b), cut(l), cut(want))
	}
	column, row := turn(t, b)
	if want, wantRow := turnByWords(b); !bytes.Equal(column, want) || row != wantRow {
		t.Fatalf("Turn(%q, %d bytes) = %q, %d, want %q, %d", cut(b), len(b), cut(column), row, cut(want), wantRow)
	}
	checkAgain(t, b, column, row)
}

// checkAgain asks for the text of its column and row (P10.4).
func checkAgain(t *testing.T, b, column []byte, row int) {
	t.Helper()
	if again, e := back(t, column, row); !bytes.Equal(again, b) || e != api.OK {
		t.Fatalf("Back of Turn(%q, %d bytes) = %q, %v", cut(b), len(b), cut(again), e)
	}
}

// checkNext holds Next against the model.
func checkNext(t *testing.T, column []byte) {
	t.Helper()
	if l, want := next(t, column), nextByWords(column); !slices.Equal(l, want) {
		t.Fatalf("Next(%q, %d bytes) = %v, want %v", cut(column), len(column), cut(l), cut(want))
	}
}

// checkBack holds Back against the model.
func checkBack(t *testing.T, column []byte, row int) {
	t.Helper()
	b, e := back(t, column, row)
	if want, wantE := backByWords(column, row); !bytes.Equal(b, want) || e != wantE {
		t.Fatalf("Back(%q, %d) = %q, %v, want %q, %v", cut(column), row, cut(b), e, cut(want), wantE)
	}
}

// checkColumn holds Next and Back against the model: some rows of the column, and those beside it.
func checkColumn(t *testing.T, column []byte) {
	t.Helper()
	checkNext(t, column)
	for row := -1; row <= min(len(column)+1, 5); row++ {
		checkBack(t, column, row)
	}
	for _, row := range []int{len(column) / 2, len(column) - 1, len(column), len(column) + 1} {
		checkBack(t, column, row)
	}
}

// eachText tells all texts of those letters that have at most so many bytes.
func eachText(letters string, most int, tell func(b []byte)) {
	var grow func(b []byte)
	grow = func(b []byte) {
		tell(bytes.Clone(b))
		if len(b) == most {
			return
		}
		for i := range len(letters) {
			grow(append(b, letters[i]))
		}
	}
	grow(nil)
}

// randomText is of so many bytes, each of them one of so many from a first one on.
func randomText(r *rand.Rand, size, first, letters int) []byte {
	b := make([]byte, size)
	for i := range b {
		b[i] = byte(first + r.Intn(letters))
	}
	return b
}

// repeating is a text of pieces that stood ahead, so that its turnings begin alike for long.
func repeating(r *rand.Rand, size, letters int) []byte {
	b := randomText(r, 1+r.Intn(8), 97, letters)
	for len(b) < size {
		if r.Intn(3) == 0 {
			b = append(b, byte(97+r.Intn(letters)))
			continue
		}
		from := r.Intn(len(b))
		b = append(b, b[from:from+r.Intn(len(b)-from)+1]...)
	}
	return b[:size]
}

// fibonacci is a text whose turnings begin alike for as long as those of any text that is no part again and again.
func fibonacci(size int) []byte {
	last, b := []byte("a"), []byte("ab")
	for len(b) < size {
		last, b = b, slices.Concat(b, last)
	}
	return b[:size]
}

// all256 is the text of all bytes, from 255 down.
func all256() []byte {
	b := make([]byte, 256)
	for i := range b {
		b[i] = byte(255 - i)
	}
	return b
}

func TestExamples(t *testing.T) {
	if column, row := turn(t, []byte("banana")); string(column) != "nnbaaa" || row != 3 {
		t.Errorf("Turn(banana) = %q, %d", column, row)
	}
	if b, e := back(t, []byte("nnbaaa"), 3); string(b) != "banana" || e != api.OK {
		t.Errorf("Back(nnbaaa, 3) = %q, %v", b, e)
	}
	if l := rows(t, []byte("abab")); !slices.Equal(l, []int{0, 2, 1, 3}) {
		t.Errorf("Rows(abab) = %v", l)
	}
	if column, row := turn(t, []byte("abab")); string(column) != "bbaa" || row != 0 {
		t.Errorf("Turn(abab) = %q, %d", column, row)
	}
	if b, e := back(t, []byte("a"), 1); len(b) != 0 || e != api.ErrArg {
		t.Errorf("Back(a, 1) = %q, %v", b, e)
	}
}

// Answers that were worked out by hand, so that the model is looked at, too.
func TestByHand(t *testing.T) {
	for _, c := range []struct {
		text, column string
		row          int
		rows, next   []int
	}{
		{"", "", 0, nil, nil},
		{"x", "x", 0, []int{0}, []int{0}},
		{"\xff\x00", "\xff\x00", 1, []int{1, 0}, []int{1, 0}},
		{"\x80\x7f\x80", "\x80\x80\x7f", 1, []int{1, 0, 2}, []int{2, 0, 1}},
		{"aaaa", "aaaa", 0, []int{0, 1, 2, 3}, []int{0, 1, 2, 3}},
		{"baba", "bbaa", 2, []int{1, 3, 0, 2}, []int{2, 3, 0, 1}},
		{"aab", "baa", 0, []int{0, 1, 2}, []int{1, 2, 0}},
		{"aba", "baa", 1, []int{2, 0, 1}, []int{1, 2, 0}},
		{"cabcab", "ccaabb", 4, []int{1, 4, 2, 5, 0, 3}, []int{2, 3, 4, 5, 0, 1}},
		{"mississippi", "pssmipissii", 4, []int{10, 7, 4, 1, 0, 9, 8, 6, 3, 5, 2}, []int{4, 6, 9, 10, 3, 0, 5, 1, 2, 7, 8}},
	} {
		if l := rows(t, []byte(c.text)); !slices.Equal(l, c.rows) {
			t.Errorf("Rows(%q) = %v, want %v", c.text, l, c.rows)
		}
		if column, row := turn(t, []byte(c.text)); string(column) != c.column || row != c.row {
			t.Errorf("Turn(%q) = %q, %d, want %q, %d", c.text, column, row, c.column, c.row)
		}
		if l := next(t, []byte(c.column)); !slices.Equal(l, c.next) {
			t.Errorf("Next(%q) = %v, want %v", c.column, l, c.next)
		}
		if b, e := back(t, []byte(c.column), c.row); string(b) != c.text || e != api.OK {
			t.Errorf("Back(%q, %d) = %q, %v, want %q", c.column, c.row, b, e, c.text)
		}
	}
}

func TestP10_1EachShortText(t *testing.T) {
	eachText("ab", 11, func(b []byte) { checkText(t, b) })
	eachText("\x00\x7f\x80\xff", 6, func(b []byte) { checkText(t, b) })
	eachText("cab", 7, func(b []byte) { checkText(t, b) })
}

func TestP10_1EachByte(t *testing.T) {
	for c := range 256 {
		checkText(t, []byte{byte(c)})
		checkText(t, []byte{byte(c), byte(c)})
		checkText(t, []byte{byte(c), byte(c + 1), byte(c + 128)})
	}
	b := all256()
	checkText(t, b)
	checkText(t, slices.Concat(b, b))
	checkText(t, slices.Concat(b, b[7:]))
	slices.Reverse(b)
	checkText(t, b)
}

// Turnings of a text that is one part again and again are like one another, and stand by their places.
func TestP10_1LikeTurnings(t *testing.T) {
	for size := range 70 {
		checkText(t, bytes.Repeat([]byte{200}, size))
	}
	r := rand.New(rand.NewSource(101))
	for range 600 {
		part := randomText(r, 1+r.Intn(12), 126, 1+r.Intn(4))
		b := bytes.Repeat(part, 1+r.Intn(20))
		checkText(t, b)
		b[r.Intn(len(b))]++
		checkText(t, b)
		checkText(t, append(b, part[:r.Intn(len(part))]...))
	}
	for _, part := range []string{"aaab", "abaababa", strings.Repeat("a", 31) + "b", string(all256())} {
		for times := 1; times <= 9; times++ {
			checkText(t, []byte(strings.Repeat(part, times)))
		}
	}
}

// Turnings that begin alike for as many bytes as each round looks at, one less and one more.
func TestP10_1LongBeginnings(t *testing.T) {
	for _, like := range []int{1, 2, 3, 4, 5, 7, 8, 9, 15, 16, 17, 31, 32, 33, 63, 64, 65, 127, 128, 129, 255, 256, 257} {
		a := strings.Repeat("a", like)
		checkText(t, []byte(a+"b"))
		checkText(t, []byte("b"+a))
		checkText(t, []byte(a+"b"+a+"c"))
		checkText(t, []byte(a+"c"+a+"b"))
		checkText(t, []byte(a+"b"+a+"b"+a+"a"))
		checkText(t, []byte("\xff"+a+"\xff"+a+"\x00"))
	}
	for size := 1; size < 300; size += 7 {
		checkText(t, fibonacci(size))
	}
}

func TestP10_1ManyTexts(t *testing.T) {
	r := rand.New(rand.NewSource(102))
	for range 1500 {
		checkText(t, randomText(r, r.Intn(200), r.Intn(200), 1+r.Intn(6)))
		checkText(t, randomText(r, r.Intn(300), 0, 256))
		checkText(t, repeating(r, 1+r.Intn(300), 1+r.Intn(3)))
	}
	for range 4 {
		checkText(t, randomText(r, 3000, 0, 256))
		checkText(t, repeating(r, 3000, 2))
	}
}

// period is how long the least part is of which the text is made again and again.
func period(b []byte) int {
	whole := slices.Concat(b, b)
	return 1 + bytes.Index(whole[1:], b)
}

// checkLong shows that the rows of a long text are in order without laying the turnings out: of two rows one behind the other the first bytes rise, or they are like and the turnings by one more are in order or like, too.
func checkLong(t *testing.T, b []byte) {
	t.Helper()
	l := rows(t, b)
	n := len(b)
	rowOf := make([]int, n)
	for i := range rowOf {
		rowOf[i] = -1
	}
	for i, place := range l {
		if place < 0 || place >= n || rowOf[place] >= 0 {
			t.Fatalf("row %d of %d bytes: the place %d is none, or stands twice", i, n, place)
		}
		rowOf[place] = i
	}
	if len(l) != n {
		t.Fatalf("%d rows of %d bytes", len(l), n)
	}
	p := period(b)
	for i := 1; i < n; i++ {
		x, y := l[i-1], l[i]
		if x%p == y%p {
			if x > y {
				t.Fatalf("like turnings at %d and %d are not by their places", x, y)
			}
			continue
		}
		if b[x] > b[y] || b[x] == b[y] && rowOf[(x+1)%n] > rowOf[(y+1)%n] {
			t.Fatalf("the turning at %d stands ahead of the one at %d", x, y)
		}
	}
	column, row := turn(t, b)
	for i, place := range l {
		if column[i] != b[(place+n-1)%n] {
			t.Fatalf("row %d of %d bytes has the byte %d", i, n, column[i])
		}
	}
	if row != rowOf[0] || len(column) != n {
		t.Fatalf("%d bytes: the text is in row %d, want %d", n, row, rowOf[0])
	}
	checkAgain(t, b, column, row)
}

func TestP10_1LongTexts(t *testing.T) {
	r := rand.New(rand.NewSource(103))
	checkLong(t, randomText(r, mostBytes-1, 0, 256))
	for _, n := range []int{1 << 16, mostBytes} {
		some := randomText(r, n/2, 0, 256)
		checkLong(t, randomText(r, n, 0, 256))
		checkLong(t, randomText(r, n, 127, 2))
		checkLong(t, slices.Concat(some, some))
		checkLong(t, repeating(r, n, 3))
		checkLong(t, fibonacci(n))
	}
}

// Each call ends soon, also for bytes that are all alike, or one part again and again.
func TestP10_1LongTextsOfOnePart(t *testing.T) {
	r := rand.New(rand.NewSource(104))
	for _, part := range [][]byte{{0}, {255}, []byte("ab"), []byte("aaab"), randomText(r, 512, 97, 26), randomText(r, 1<<18, 97, 2)} {
		b := bytes.Repeat(part, mostBytes/len(part))
		checkLong(t, b)
		b[len(b)-1]++
		checkLong(t, b)
	}
}

func TestP10_1TooBig(t *testing.T) {
	for _, b := range [][]byte{make([]byte, mostBytes+1), make([]byte, mostBytes*2), bytes.Repeat([]byte("ab"), mostBytes)} {
		if l, e := suffix.Rows(b); len(l) != 0 || e != api.ErrBig {
			t.Errorf("Rows of %d bytes = %v, %v", len(b), cut(l), e)
		}
		if column, row, e := suffix.Turn(b); len(column) != 0 || row != 0 || e != api.ErrBig {
			t.Errorf("Turn of %d bytes = %v, %d, %v", len(b), cut(column), row, e)
		}
	}
	b := make([]byte, mostBytes+1) // what is behind the length does not count
	if l, e := suffix.Rows(b[:mostBytes]); len(l) != mostBytes || e != api.OK {
		t.Errorf("Rows of 2^20 bytes: %d, %v", len(l), e)
	}
}

func TestP10_2EachShortColumn(t *testing.T) {
	eachText("ab", 10, func(b []byte) { checkNext(t, b) })
	eachText("\xff\x80\x7f\x00", 5, func(b []byte) { checkNext(t, b) })
}

func TestP10_2ManyColumns(t *testing.T) {
	r := rand.New(rand.NewSource(105))
	checkNext(t, all256())
	checkNext(t, slices.Concat(all256(), all256()))
	for range 1500 {
		checkNext(t, randomText(r, r.Intn(300), 0, 256))
		checkNext(t, randomText(r, r.Intn(100), r.Intn(250), 1+r.Intn(6)))
		column, _ := turn(t, repeating(r, 1+r.Intn(200), 2))
		checkNext(t, column)
	}
	checkNext(t, bytes.Repeat([]byte{128}, 500))
}

// checkLongNext shows that a long column's bytes are told sorted, like ones rising.
func checkLongNext(t *testing.T, column []byte) {
	t.Helper()
	l := next(t, column)
	if len(l) != len(column) {
		t.Fatalf("Next of %d bytes: %d numbers", len(column), len(l))
	}
	for i := 1; i < len(l); i++ {
		if x, y := l[i-1], l[i]; column[x] > column[y] || column[x] == column[y] && x >= y {
			t.Fatalf("%d stands ahead of %d", x, y)
		}
	}
}

func TestP10_2LongColumns(t *testing.T) {
	r := rand.New(rand.NewSource(106))
	checkLongNext(t, randomText(r, mostBytes, 0, 256))
	checkLongNext(t, randomText(r, mostBytes, 254, 2))
	checkLongNext(t, make([]byte, mostBytes))
	for _, n := range []int{mostBytes + 1, 2 * mostBytes} {
		if l, e := suffix.Next(make([]byte, n)); len(l) != 0 || e != api.ErrBig {
			t.Errorf("Next of %d bytes = %v, %v", n, cut(l), e)
		}
	}
	if l, e := suffix.Next(make([]byte, mostBytes+1)[:mostBytes]); len(l) != mostBytes || e != api.OK {
		t.Errorf("Next of 2^20 bytes: %d, %v", len(l), e)
	}
}

// Each column, whether a text has it or not, with each row.
func TestP10_3EachShortColumn(t *testing.T) {
	for _, letters := range []string{"ab", "\x00\x80\xff"} {
		eachText(letters, 8, func(b []byte) {
			for row := -1; row <= len(b)+1; row++ {
				checkBack(t, b, row)
			}
		})
	}
}

func TestP10_3ManyColumns(t *testing.T) {
	r := rand.New(rand.NewSource(107))
	for range 400 {
		checkColumn(t, randomText(r, r.Intn(300), 0, 256))
		checkColumn(t, randomText(r, r.Intn(60), 100, 1+r.Intn(60)))
		column, row := turn(t, repeating(r, 1+r.Intn(200), 2))
		checkColumn(t, column)
		column[r.Intn(len(column))]++
		checkBack(t, column, row)
		checkColumn(t, column)
	}
	checkColumn(t, all256())
	checkColumn(t, bytes.Repeat([]byte{200}, 300))
}

func TestP10_3WrongRows(t *testing.T) {
	wrong := []int{-1, -2, math.MinInt, math.MinInt32, math.MaxInt, math.MaxInt32, 1 << 32, -1 << 32}
	for _, size := range []int{0, 1, 2, 6, 256, 1000} {
		column := bytes.Repeat([]byte{7}, size)
		for _, row := range slices.Concat(wrong, []int{max(1, size), size + 1, 2*size + 1}) {
			if b, e := back(t, column, row); len(b) != 0 || e != api.ErrArg {
				t.Errorf("Back of %d bytes, %d = %q, %v", size, row, cut(b), e)
			}
		}
		for _, row := range []int{0, max(0, size-1)} {
			if b, e := back(t, column, row); !bytes.Equal(b, column) || e != api.OK {
				t.Errorf("Back of %d bytes, %d = %q, %v", size, row, cut(b), e)
			}
		}
	}
	for _, empty := range [][]byte{nil, {}} {
		for _, row := range []int{-1, 0, 1} {
			b, e := suffix.Back(empty, row)
			if len(b) != 0 || (e == api.OK) != (row == 0) || e != api.OK && e != api.ErrArg {
				t.Errorf("Back of nothing, %d = %q, %v", row, b, e)
			}
		}
	}
}

// ErrBig is named ahead of ErrArg.
func TestP10_3ErrorsInOrder(t *testing.T) {
	most := randomText(rand.New(rand.NewSource(108)), mostBytes+1, 0, 256)
	for _, c := range []struct {
		size, row int
		want      api.Errno
	}{
		{mostBytes + 1, 0, api.ErrBig}, {mostBytes + 1, mostBytes, api.ErrBig},
		{mostBytes + 1, -1, api.ErrBig}, {mostBytes + 1, mostBytes + 1, api.ErrBig}, {mostBytes + 1, math.MinInt, api.ErrBig}, {mostBytes + 1, math.MaxInt, api.ErrBig},
		{mostBytes, -1, api.ErrArg}, {mostBytes, mostBytes, api.ErrArg}, {mostBytes, math.MaxInt, api.ErrArg}, {mostBytes, math.MinInt, api.ErrArg},
		{mostBytes, 0, api.OK}, {mostBytes, mostBytes - 1, api.OK},
	} {
		b, e := suffix.Back(most[:c.size], c.row)
		if e != c.want || e != api.OK && len(b) != 0 || e == api.OK && len(b) != c.size {
			t.Errorf("Back of %d bytes, %d: %d bytes, %v, want %v", c.size, c.row, len(b), e, c.want)
		}
	}
}

// A long column that no text has is gone through as the words say, too: a column that is in order leads from each row to itself.
func TestP10_4LongColumnsThatNoTextHas(t *testing.T) {
	column := make([]byte, mostBytes)
	for i := range column {
		column[i] = byte(i >> 12)
	}
	for _, row := range []int{0, 1 << 12, mostBytes/2 + 5, mostBytes - 1} {
		b, e := back(t, column, row)
		if !bytes.Equal(b, bytes.Repeat(column[row:row+1], mostBytes)) || e != api.OK {
			t.Errorf("Back, %d = %v.., %v", row, cut(b), e)
		}
	}
}

// Of each row of a text's column the turning is told that stands there.
func TestP10_4EachRow(t *testing.T) {
	r := rand.New(rand.NewSource(109))
	for range 200 {
		b := repeating(r, 1+r.Intn(80), 1+r.Intn(4))
		column, _ := turn(t, b)
		for row, place := range rows(t, b) {
			if got, e := back(t, column, row); !bytes.Equal(got, turning(b, place)) || e != api.OK {
				t.Fatalf("Back(%q, %d) = %q, %v, want the turning of %q at %d", column, row, got, e, b, place)
			}
		}
	}
}

func TestP10_4ManyTexts(t *testing.T) {
	r := rand.New(rand.NewSource(110))
	for range 300 {
		for _, b := range [][]byte{randomText(r, r.Intn(5000), 0, 256), randomText(r, r.Intn(5000), 254, 2), repeating(r, 1+r.Intn(5000), 4), bytes.Repeat(repeating(r, 1+r.Intn(50), 2), r.Intn(60))} {
			column, row := turn(t, b)
			checkAgain(t, b, column, row)
		}
	}
}

// fill sets all of a list's memory.
func fill[T any](l []T, x T) {
	l = l[:cap(l)]
	for i := range l {
		l[i] = x
	}
}

// Rule 4: what is handed out is no part of what was handed in, and of no other answer.
func TestWhatIsToldIsNew(t *testing.T) {
	for _, text := range []string{"", "x", "aaaa", "banana", "abababab", string(all256())} {
		b := []byte(text)
		column, row := turn(t, b)
		again, _, _ := suffix.Turn(b)
		kept := bytes.Clone(column)
		fill(again, 0xee)
		l, _ := suffix.Rows(b)
		fill(l, -1)
		if string(b) != text || !bytes.Equal(column, kept) || !slices.Equal(rows(t, b), rowsByWords([]byte(text))) {
			t.Errorf("%q: what Turn or Rows tells is part of what was handed in, or of another answer", text)
		}
		fill(b, 0xdd)
		if !bytes.Equal(column, kept) {
			t.Errorf("%q: what was handed in is part of what Turn tells", text)
		}
		order, _ := suffix.Next(column)
		fill(order, -1)
		out, _ := suffix.Back(column, row)
		other, _ := suffix.Back(column, row)
		fill(other, 0xcc)
		if !bytes.Equal(column, kept) || string(out) != text || !slices.Equal(next(t, column), nextByWords(kept)) {
			t.Errorf("%q: what Back or Next tells is part of what was handed in, or of another answer", text)
		}
		fill(column, 0xbb)
		if string(out) != text {
			t.Errorf("%q: what was handed in is part of what Back tells", text)
		}
	}
}

// Rule 5: calls that run side by side tell what they tell alone.
func TestSideBySide(t *testing.T) {
	r := rand.New(rand.NewSource(111))
	done := make(chan bool)
	for range 8 {
		b := repeating(r, 20000, 3)
		go func() {
			same := true
			for range 3 {
				column, row, _ := suffix.Turn(b)
				out, _ := suffix.Back(column, row)
				same = same && bytes.Equal(out, b)
			}
			done <- same
		}()
	}
	for range 8 {
		if !<-done {
			t.Error("another text")
		}
	}
}
