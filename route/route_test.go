package route_test

import (
	"iter"
	"math/rand"
	"slices"
	"strings"
	"testing"
	"unsafe"

	"hamper/api"
	"hamper/route"
)

// short tells a text so that a failed test can be read.
func short(s string) string {
	if len(s) > 80 {
		return s[:40] + ".." + s[len(s)-38:]
	}
	return s
}

// looks holds all looks at one text against the words.
func looks(t *testing.T, s string) {
	t.Helper()
	names := namesByWords(s)
	if have := route.Valid(s); have != (len(names) > 0) {
		t.Errorf("Valid(%q (%d)) = %t", short(s), len(s), have)
	}
	if have := slices.Collect(route.Names(s)); !slices.Equal(have, names) {
		t.Errorf("Names(%q (%d)): %.200q, want %.200q", short(s), len(s), have, names)
	}
	have, ok := route.Parent(s)
	if want, wantOk := parentByWords(s); have != want || ok != wantOk {
		t.Errorf("Parent(%q (%d)) = %q, %t, want %q, %t", short(s), len(s), short(have), ok, short(want), wantOk)
	}
	if have, want := route.Base(s), baseByWords(s); have != want {
		t.Errorf("Base(%q (%d)) = %q, want %q", short(s), len(s), short(have), short(want))
	}
	path, folder, e := route.Read(s)
	if want, wantFolder, wantError := readByWords(s); path != want || folder != wantFolder || e != wantError {
		t.Errorf("Read(%q (%d)) = %q, %t, error %d, want %q, %t, error %d", short(s), len(s), short(path), folder, int(e), short(want), wantFolder, int(wantError))
	}
	if len(names) > 0 { // P17.4
		if back, e := route.Join(names); back != s || e != api.OK {
			t.Errorf("Join of the names of %q (%d) = %q, error %d", short(s), len(s), short(back), int(e))
		}
	}
}

// pairs holds all looks at two texts against the words, both ways round.
func pairs(t *testing.T, a, b string) {
	t.Helper()
	for range 2 {
		if have, want := route.Compare(a, b), compareByWords(a, b); have != want {
			t.Errorf("Compare(%q (%d), %q (%d)) = %d, want %d", short(a), len(a), short(b), len(b), have, want)
		}
		if have, want := route.Within(a, b), withinByWords(a, b); have != want {
			t.Errorf("Within(%q (%d), %q (%d)) = %t, want %t", short(a), len(a), short(b), len(b), have, want)
		}
		a, b = b, a
	}
}

// joins holds Join against the words, and asks that the names are as they were, and what is behind them.
func joins(t *testing.T, names []string) {
	t.Helper()
	before := slices.Clone(names[:cap(names)])
	have, e := route.Join(names)
	want, wantError := joinByWords(names)
	if have != want || e != wantError {
		t.Errorf("Join(%.200q (%d)) = %q (%d), error %d, want %q (%d), error %d", names, len(names), short(have), len(have), int(e), short(want), len(want), int(wantError))
	}
	if !slices.Equal(names[:cap(names)], before) {
		t.Errorf("Join(%.200q (%d)): what was handed in is changed", before, len(names))
	}
}

// The chapter's examples.
func TestExamples(t *testing.T) {
	if !route.Valid("a/b") {
		t.Error("a/b is no path")
	}
	for _, s := range []string{"", "/a", "a//b", "a/", "a/../b", "./a"} {
		if route.Valid(s) {
			t.Errorf("%q is a path", s)
		}
	}
	if s, ok := route.Parent("a/b"); s != "a" || !ok {
		t.Error(s, ok)
	}
	if s := route.Base("a/b"); s != "b" {
		t.Error(s)
	}
	if c := route.Compare("a/b", "a.b"); c != -1 {
		t.Error(c)
	}
	if s, folder, e := route.Read("a/b/"); s != "a/b" || !folder || e != api.OK {
		t.Error(s, folder, int(e))
	}
	if s, folder, e := route.Read("a//"); s != "" || folder || e != api.ErrPath {
		t.Error(s, folder, int(e))
	}
}

// P17.1: what is a path, told by hand: names by their bytes.
func TestValidNames(t *testing.T) {
	valid := func(s string, want bool) {
		t.Helper()
		for _, x := range []string{s, "a/" + s, s + "/a", "a/" + s + "/b"} {
			if have := route.Valid(x); have != want {
				t.Errorf("Valid(%q (%d)) = %t", short(x), len(x), have)
			}
		}
	}
	for _, s := range []string{"a", "...", "....", ".a", "..a", "a.", "a..", ". ", " .", " ", "\n", "\\", "a\\b", "C:", "~", "*", "-", ". .", ".\xff", "\x01", "\x7f", "\ufffd", "é", "€", "😀", "..\ufffd"} {
		valid(s, true)
	}
	for _, s := range []string{"", ".", "..", "\x00", "\x00a", "a\x00", "a\x00b", ".\x00", "..\x00", "\xff\x00", "\x00\x00"} {
		valid(s, false)
	}
	for c := range 256 {
		alone := string([]byte{byte(c)})
		valid(alone, c != 0 && c != '/' && c != '.')
		if c != '/' {
			valid("a"+alone+"b", c != 0)
			valid(strings.Repeat("a", 254)+alone, c != 0)
			valid(alone+strings.Repeat("a", 255), false)
		}
	}
	for _, r := range runes {
		for size := 1; size < 400; size++ {
			if wide(r, size) != "." && wide(r, size) != ".." {
				valid(wide(r, size), size <= 255)
				valid(cutOff(r, size), size <= 255)
			}
		}
	}
}

// P17.1: a limit of names or of bytes, just reached and one beyond; bytes are counted, not runes.
func TestValidLimits(t *testing.T) {
	valid := func(s string, size int, want bool) {
		t.Helper()
		if len(s) != size {
			t.Fatalf("%q has %d bytes, not %d", short(s), len(s), size)
		}
		if have := route.Valid(s); have != want {
			t.Errorf("Valid(%q (%d)) = %t", short(s), len(s), have)
		}
	}
	for count := 1; count <= 200; count++ {
		valid(deep(count), 2*count-1, count <= 64)
		valid(deep(count)+"/é", 2*count+2, count < 64)
	}
	valid(strings.Repeat("0123456789abcde/", 63)+"0123456789abcdef", 1024, true)
	valid(strings.Repeat("0123456789abcde/", 63)+"0123456789abcdefg", 1025, false)
	valid(strings.Repeat("0123456789abcde/", 64)+"0", 1025, false)
	for size := 300; size <= 1100; size++ {
		for _, name := range []int{20, 100, 127, 200} {
			valid(long(size, name), size, size <= 1024)
		}
	}
	for _, r := range runes {
		name := wide(r, 255)
		four := strings.Repeat(name+"/", 3)
		valid(four+name, 1023, true)
		valid(four+wide(r, 254)+"/", 1023, false)
		valid(four+wide(r, 253)+"/a", 1023, true)
		valid(four+wide(r, 253)+"/aa", 1024, true)
		valid(four+wide(r, 253)+"/aaa", 1025, false)
		valid(four+wide(r, 254)+"/a", 1024, true)
		valid(four+name+"/", 1024, false)
		valid(four+name+"/a", 1025, false)
		valid(four+wide(r, 252)+"/"+cutOff(r, 3), 1024, cutOff(r, 3) != "." && cutOff(r, 3) != "..")
		valid(four+wide(r, 252)+"/"+cutOff(r, 4), 1025, false)
		valid(four+cutOff(r, 240)+"/"+cutOff(r, 15), 1024, true)
		valid(four+cutOff(r, 240)+"/"+cutOff(r, 16), 1025, false)
	}
}

// P17.1: an iterator that is ranged over again and again, within itself too, and left at each of its names.
func TestNamesAgain(t *testing.T) {
	for _, s := range []string{"a", "a/b", "aa/\xff/é/c", "\xc3/\xc3/\xe2\x82/\ufffd", deep(64), long(1024, 15), long(1024, 255)} {
		want := strings.Split(s, "/")
		names := route.Names(s)
		for range 3 {
			if have := slices.Collect(names); !slices.Equal(have, want) {
				t.Errorf("Names(%q): %.200q", short(s), have)
			}
		}
		for leave := range want {
			var have []string
			for name := range names {
				have = append(have, name)
				if len(have) > leave {
					break
				}
			}
			if !slices.Equal(have, want[:leave+1]) {
				t.Errorf("Names(%q), left at %d: %.200q", short(s), leave, have)
			}
			told := 0
			names(func(name string) bool { // what it does where the language's range would not look any more
				told++
				return told <= leave
			})
			if told != leave+1 {
				t.Errorf("Names(%q) tells %d names behind the one at which it is left", short(s), told-leave-1)
			}
		}
		outer := 0
		for name := range names {
			if name != want[outer] || !slices.Equal(slices.Collect(names), want) {
				t.Errorf("Names(%q) is another one within itself, at %d", short(s), outer)
			}
			outer++
		}
		next, stop := iter.Pull(names)
		other, end := iter.Pull(names)
		for _, name := range want {
			first, _ := next()
			second, _ := other()
			if first != name || second != name {
				t.Errorf("Names(%q), gone through by two at once: %q, %q, want %q", short(s), first, second, name)
			}
		}
		stop()
		end()
	}
}

// P17.1: of what is no path the iterator is there, and tells nothing, not even the names ahead of what is wrong.
func TestNamesOfNone(t *testing.T) {
	for _, s := range []string{"", "/", "a/", "/a", "a//b", "a/..", "a/b/.", "a\x00", "a/b/\x00", deep(65), long(1025, 100), "a/" + strings.Repeat("b", 256)} {
		names := route.Names(s)
		if names == nil {
			t.Fatalf("Names(%q) is nil", short(s))
		}
		for range 2 {
			for name := range names {
				t.Errorf("Names(%q) tells %q", short(s), name)
			}
		}
	}
}

// P17.1: paths of names, told by hand.
func TestJoin(t *testing.T) {
	join := func(want string, names ...string) {
		t.Helper()
		have, e := route.Join(names)
		if want == "" && (have != "" || e != api.ErrPath) || want != "" && (have != want || e != api.OK) {
			t.Errorf("Join(%.200q (%d)) = %q, error %d", names, len(names), short(have), int(e))
		}
		joins(t, names)
	}
	join("")
	join("", []string{}...)
	join("a", "a")
	join("a/b", "a", "b")
	join("a/a/a", "a", "a", "a")
	join("\xff/\xc3/\xa9", "\xff", "\xc3", "\xa9") // bytes are not made runes, nor put together
	join(".../.a/..a", "...", ".a", "..a")
	for _, none := range []string{"", ".", "..", "/", "a/", "/a", "a/b", "a//b", "\x00", "a\x00", "\x00a", "a\x00b", strings.Repeat("a", 256), strings.Repeat("é", 128), "\xc3/", "../a"} {
		join("", none)
		join("", none, "a")
		join("", "a", none)
		join("", "a", none, "b")
		join("", none, none)
	}
	name := strings.Repeat("a", 255)
	join(name, name)
	join(name+"/"+name+"/"+name+"/"+name, name, name, name, name)
	join(name+"/"+name+"/"+name+"/"+name[:254]+"/a", name, name, name, name[:254], "a")
	join("", name, name, name, name, "a")
	join("", name, name, name, name, name)
	for _, count := range []int{1, 63, 64, 65, 66, 512, 513, 5000} {
		names := slices.Repeat([]string{"n"}, count)
		want := deep(count)
		if count > 64 {
			want = ""
		}
		join(want, names...)
	}
	full := slices.Repeat([]string{"0123456789abcde"}, 64)
	join(strings.Join(full, "/"), full...) // 1023 bytes
	full[63] += "f"
	join(strings.Join(full, "/"), full...)
	full[0] += "g"
	join("", full...)
	full[0], full[63] = full[0][1:], full[63]+"é"
	join("", full...)
}

// P17.1: lists of few names and of what is almost one, all of them, with more behind their length.
func TestJoinOfAll(t *testing.T) {
	parts := []string{"", ".", "..", "a", ".a", "/", "a/b", "\x00", "\xff", "é", strings.Repeat("w", 255), strings.Repeat("w", 256)}
	lists := [][]string{nil}
	for range 3 {
		var longer [][]string
		for _, l := range lists {
			for _, part := range parts {
				longer = append(longer, append(slices.Clone(l), part))
			}
		}
		lists = append(lists, longer...)
	}
	for _, l := range lists {
		joins(t, l)
		joins(t, append(slices.Clone(l), "behind", "", "..", "a/b")[:len(l)])
	}
}

// P17.1: lists of any names.
func TestJoinOfAny(t *testing.T) {
	r := rand.New(rand.NewSource(171))
	joined := 0
	for range 8000 {
		most := []int{1, 15, 16, 255, 256}[r.Intn(5)]
		names := make([]string, r.Intn(70), 80)
		for i := range names {
			if names[i] = randomName(r, most); r.Intn(3) > 0 {
				names[i] += "n"
			}
		}
		joins(t, names)
		for i := range names {
			names[i] = strings.Repeat("n", 1+r.Intn(2*1024/max(1, len(names))))
		}
		joins(t, names)
		if _, e := route.Join(names); e == api.OK {
			joined++
		}
	}
	if joined < 1000 || joined > 7000 {
		t.Errorf("%d of the lists make a path", joined)
	}
}

// P17.1: folders and last names, told by hand.
func TestParentBase(t *testing.T) {
	for _, x := range []struct {
		s, parent, base string
	}{
		{"a/b", "a", "b"}, {"a/b/c", "a/b", "c"}, {"a/a", "a", "a"}, {"a/a/a", "a/a", "a"}, {"aa/a", "aa", "a"}, {"a/aa", "a", "aa"}, {"b/ab", "b", "ab"},
		{"\xff/\xc3", "\xff", "\xc3"}, {"\xc3/\xa9", "\xc3", "\xa9"}, {"\ufffd/\ufffd", "\ufffd", "\ufffd"}, {".../.a", "...", ".a"},
		{"a", "", "a"}, {"...", "", "..."}, {"\xff", "", "\xff"}, {strings.Repeat("é", 127), "", strings.Repeat("é", 127)},
		{deep(64), deep(63), "n"}, {long(1024, 15), long(1024, 15)[:1024-17], long(1024, 15)[1024-16:]},
		{"", "", ""}, {"/", "", ""}, {"a/", "", ""}, {"a/b/", "", ""}, {"/a", "", ""}, {"a//b", "", ""}, {"a/.", "", ""}, {"a/..", "", ""}, {"./a", "", ""}, {"../a/b", "", ""}, {"a/\x00", "", ""}, {"a\x00/b", "", ""},
		{deep(65), "", ""}, {long(1025, 15), "", ""}, {"a/" + strings.Repeat("b", 256), "", ""}, {strings.Repeat("b", 256) + "/a", "", ""},
	} {
		if s, ok := route.Parent(x.s); s != x.parent || ok != (x.parent != "") {
			t.Errorf("Parent(%q (%d)) = %q, %t", short(x.s), len(x.s), short(s), ok)
		}
		if s := route.Base(x.s); s != x.base {
			t.Errorf("Base(%q (%d)) = %q", short(x.s), len(x.s), short(s))
		}
	}
}

// P17.1: what lies in what, told by hand.
func TestWithin(t *testing.T) {
	for _, x := range []struct {
		s, folder string
		want      bool
	}{
		{"a/b", "a", true}, {"a/b/c", "a", true}, {"a/b/c", "a/b", true}, {"a/a", "a", true}, {"a/a/a", "a/a", true}, {deep(64), deep(63), true}, {deep(64), "n", true},
		{"\xc3/\xa9", "\xc3", true}, {"\xff/\xff", "\xff", true}, {long(1024, 15), long(1024, 15)[:1024-17], true},
		{"a", "a", false}, {"a/b", "a/b", false}, {"ab", "a", false}, {"ab/c", "a", false}, {"a/bc", "a/b", false}, {"a/b", "b", false}, {"b/a", "a", false}, {"a.b", "a", false}, {"a", "a/b", false}, {"a/b", "a/c", false},
		{"é", "\xc3", false}, {"\xc3\xa9/a", "\xc3", false},
		{"a", "", false}, {"", "a", false}, {"", "", false}, {"/a", "", false}, {"/a", "/", false}, {"//a", "/", false},
		{"a/", "a", false}, {"a//b", "a", false}, {"a//b", "a/", false}, {"a/b", "a/", false}, {"a/b/", "a", false}, {"a/..", "a", false}, {"a/.", "a", false}, {"a/b/..", "a/b", false}, {"../a", "..", false}, {"./a", ".", false}, {"a/../b", "a", false}, {"a/../b", "a/..", false},
		{"a/\x00", "a", false}, {"\x00/a", "\x00", false}, {deep(65), deep(64), false}, {deep(66), deep(65), false}, {long(1025, 15), "mmmmmmmmmmmmmmm", false}, {"a/" + strings.Repeat("b", 256), "a", false}, {strings.Repeat("b", 256) + "/a", strings.Repeat("b", 256), false},
	} {
		if have := route.Within(x.s, x.folder); have != x.want {
			t.Errorf("Within(%q (%d), %q (%d)) = %t", short(x.s), len(x.s), short(x.folder), len(x.folder), have)
		}
		if x.want && route.Within(x.folder, x.s) {
			t.Errorf("Within(%q (%d), %q (%d)) = true", short(x.folder), len(x.folder), short(x.s), len(x.s))
		}
	}
}

// P17.2: texts that are written here in order, as the words have it.
func TestCompareInOrder(t *testing.T) {
	inOrder(t, []string{
		"", "/", "//", "///", "//a", "/\x00", "/.", "/a", "/a/", "/a//", "/a/a",
		"\x00", "\x00/", "\x00/a", "\x00\x00", "\x00a", "\x01", " ", "!", "-", ".", "./", "./a", ".!", "..", "../a", "...", ".a", "0", "0/a", "00",
		"a", "a/", "a//", "a//b", "a/\x00", "a/.", "a/a", "a/a/", "a/a/a", "a/a.a", "a/aa", "a/b", "a/\x80", "a/\xff", "a\x00", "a\x00/", "a b", "a!b", "a.b", "a.b/", "a.b/a", "a0", "aa", "aa/a", "aaa", "ab", "ab/", "ab/a", "a\x7f", "a\x80", "a\xff",
		"b", "b/a", "~", "\x7f", "\x80", "\x80/", "\x80\x80", "\xc2", "\xc3", "\xc3/\xa9", "é", "é/a", "éa", "\xc3\xff", "€", "\xef", "\ufffd", "\uffff", "\U00010000", "😀", "\xf4", "\xfe", "\xff", "\xff/", "\xff/\xff", "\xff\xfe", "\xff\xff",
	})
	inOrder(t, []string{deep(63), deep(64), deep(65), deep(65) + "n", deep(64) + "n"})
	large := strings.Repeat("x", 5000)
	inOrder(t, []string{large, large + "/", large + "/" + large, large + "/" + large + "/a", large + "/" + large + "\x00", large + "\x00", large + "\x00/b", large + ".", large + "x", large + large, large + large + "/"})
}

// inOrder asks that of any two texts the one that is ahead is told to be.
func inOrder(t *testing.T, l []string) {
	t.Helper()
	for i, a := range l {
		for j, b := range l {
			want := 0
			if i < j {
				want = -1
			} else if i > j {
				want = 1
			}
			if have := route.Compare(a, b); have != want {
				t.Errorf("Compare(%q (%d), %q (%d)) = %d, want %d", short(a), len(a), short(b), len(b), have, want)
			}
		}
	}
}

// P17.3: paths as archives write them, told by hand.
func TestRead(t *testing.T) {
	full := long(1024, 15)
	for _, x := range []struct {
		s, path string
	}{
		{"a", "a"}, {"a/", "a"}, {"a/b", "a/b"}, {"a/b/", "a/b"}, {".../", "..."}, {"\xff/", "\xff"}, {"\xc3/", "\xc3"}, {"é/", "é"}, {"\xe2\x82/", "\xe2\x82"}, {"a\\/", "a\\"}, {"/\\"[1:], "\\"},
		{full, full}, {full + "/", full}, {deep(64), deep(64)}, {deep(64) + "/", deep(64)}, {strings.Repeat("a", 255) + "/", strings.Repeat("a", 255)},
		{"", ""}, {"/", ""}, {"//", ""}, {"///", ""}, {"a//", ""}, {"a///", ""}, {"a/b//", ""}, {"/a", ""}, {"/a/", ""}, {"a//b", ""}, {"a//b/", ""}, {".", ""}, {"./", ""}, {"..", ""}, {"../", ""}, {"a/..", ""}, {"a/../", ""}, {"a/./", ""}, {"a\x00", ""}, {"a\x00/", ""}, {"a/\x00", ""}, {"\x00", ""}, {"\x00/", ""},
		{full + "//", ""}, {full + "a", ""}, {full + "a/", ""}, {deep(65), ""}, {deep(65) + "/", ""}, {strings.Repeat("a", 256), ""}, {strings.Repeat("a", 256) + "/", ""},
	} {
		path, folder, e := route.Read(x.s)
		if x.path == "" {
			if path != "" || folder || e != api.ErrPath {
				t.Errorf("Read(%q (%d)) = %q, %t, error %d", short(x.s), len(x.s), short(path), folder, int(e))
			}
			continue
		}
		if path != x.path || folder != (len(x.s) > len(x.path)) || e != api.OK {
			t.Errorf("Read(%q (%d)) = %q (%d), %t, error %d", short(x.s), len(x.s), short(path), len(path), folder, int(e))
		}
	}
}

// P17.1, P17.3, P17.4: every text of up to seven bytes of few letters, and what is at the limits, against the words.
func TestShortTexts(t *testing.T) {
	for _, s := range textsOf(letters, 7) {
		looks(t, s)
	}
	for _, s := range edges() {
		looks(t, s)
	}
}

// P17.1, P17.2: any two texts of up to four bytes of few letters, and many at the limits, against the words.
func TestShortPairs(t *testing.T) {
	l := textsOf(letters, 4)
	for i, a := range l {
		for _, b := range l[i:] {
			pairs(t, a, b)
		}
	}
	r := rand.New(rand.NewSource(172))
	l = edges()
	for i, a := range l {
		pairs(t, a, a)
		for _, b := range l[max(0, i-8):i] { // those at the same limit stand side by side
			pairs(t, a, b)
		}
		for range 30 {
			pairs(t, a, l[r.Intn(len(l))])
		}
	}
}

// P17.1 to P17.4: texts of any runes and bytes, many of them long, against the words; each with others that begin as it does.
func TestAnyTexts(t *testing.T) {
	r := rand.New(rand.NewSource(17))
	paths, many := 0, 12000
	for range many {
		s := randomText(r)
		looks(t, s)
		if len(namesByWords(s)) > 0 {
			paths++
		}
		other := randomText(r)
		pairs(t, s, other)
		at := r.Intn(len(s) + 1)
		pairs(t, s, s[:at])
		pairs(t, s, s[:at]+other)
		pairs(t, s, s+"/"+other)
		pairs(t, s, s+other)
		pairs(t, s, s)
	}
	if paths < many/4 || paths > 3*many/4 {
		t.Errorf("%d of %d texts are paths", paths, many)
	}
}

// P17.4: Compare is an order: of any three texts, what it tells of two pairs goes with the third; like are those alone that are the same.
func TestCompareIsAnOrder(t *testing.T) {
	l := textsOf(letters, 3)
	told := make([][]int, len(l))
	for i, a := range l {
		for _, b := range l {
			told[i] = append(told[i], route.Compare(a, b))
		}
	}
	for i := range l {
		for j := range l {
			if told[i][j] != -told[j][i] || (told[i][j] == 0) != (i == j) || told[i][j] < -1 || told[i][j] > 1 {
				t.Fatalf("Compare(%q, %q) = %d, turned about %d", l[i], l[j], told[i][j], told[j][i])
			}
			for k := range l {
				if told[i][j] < 0 && told[j][k] < 0 && told[i][k] >= 0 {
					t.Fatalf("%q is ahead of %q, that of %q, but Compare of the first and the last is %d", l[i], l[j], l[k], told[i][k])
				}
			}
		}
	}
	sorted := textsOf(letters, 5)
	slices.SortFunc(sorted, route.Compare)
	for i, s := range sorted[1:] {
		if route.Compare(sorted[i], s) >= 0 {
			t.Fatalf("sorted, %q stands ahead of %q", sorted[i], s)
		}
	}
}

// P17.4: in the order, all that lies in a path stands right behind it, without anything else between: any three paths.
func TestNothingBetween(t *testing.T) {
	var paths []string
	for _, s := range textsOf("/.a\xff!", 5) {
		if route.Valid(s) {
			paths = append(paths, s)
		}
	}
	if len(paths) < 1000 {
		t.Fatalf("%d paths", len(paths))
	}
	slices.SortFunc(paths, route.Compare)
	within := 0
	for i, folder := range paths {
		left := false
		for j, s := range paths {
			in := route.Within(s, folder)
			if in && j <= i {
				t.Fatalf("%q stands ahead of %q, in which it lies", s, folder)
			}
			if in && left {
				t.Fatalf("%q lies in %q, but ahead of it stands what does not", s, folder)
			}
			left = left || !in && j > i
			if in {
				within++
			}
		}
	}
	if within < 500 {
		t.Errorf("%d pairs lie in one another", within)
	}
}

// P17.4: the same of three paths of any names, of which two lie in one another.
func TestNothingBetweenAny(t *testing.T) {
	r := rand.New(rand.NewSource(174))
	met, between := 0, 0
	for range 100000 {
		folder := randomText(r)
		s := folder + "/" + runes[r.Intn(len(runes))]
		if !route.Within(s, folder) {
			continue
		}
		met++
		if route.Compare(folder, s) != -1 {
			t.Fatalf("%q stands not ahead of %q", short(folder), short(s))
		}
		for _, x := range []string{folder + runes[r.Intn(len(runes))], folder + "/" + runes[r.Intn(len(runes))], folder + runes[r.Intn(len(runes))] + "/a", randomText(r), folder[:r.Intn(len(folder))], s + "/a"} {
			if route.Valid(x) && route.Compare(folder, x) < 0 && route.Compare(x, s) < 0 {
				between++
				if !route.Within(x, folder) {
					t.Fatalf("%q stands between %q and %q", short(x), short(folder), short(s))
				}
			}
		}
	}
	if met < 10000 || between < 1000 {
		t.Errorf("%d paths, %d between them", met, between)
	}
}

// shares is whether two texts lie in the same memory, in any of their bytes.
func shares(a, b string) bool {
	if len(a) == 0 || len(b) == 0 {
		return false
	}
	x, y := uintptr(unsafe.Pointer(unsafe.StringData(a))), uintptr(unsafe.Pointer(unsafe.StringData(b)))
	return x < y+uintptr(len(b)) && y < x+uintptr(len(a))
}

// Rule 4: what is told is new memory, so that nothing of what was handed in is kept.
func TestNewMemory(t *testing.T) {
	for _, path := range []string{"a", "a/b", "aa/bb/cc", deep(64), long(1024, 255)} {
		all := strings.Clone("ahead" + path + "/behind")
		s := all[5 : 5+len(path)]
		for name := range route.Names(s) {
			if shares(name, all) {
				t.Errorf("a name of %q lies in its memory", short(path))
			}
		}
		if parent, _ := route.Parent(s); shares(parent, all) {
			t.Errorf("the parent of %q lies in its memory", short(path))
		}
		if shares(route.Base(s), all) {
			t.Errorf("the last name of %q lies in its memory", short(path))
		}
		for _, x := range []string{s, all[5 : 6+len(path)]} {
			if read, _, e := route.Read(x); e != api.OK || shares(read, all) {
				t.Errorf("Read(%q): error %d, or it lies in its memory", short(x), int(e))
			}
		}
		if joined, e := route.Join(strings.Split(s, "/")); e != api.OK || shares(joined, all) {
			t.Errorf("Join of the names of %q: error %d, or it lies in their memory", short(path), int(e))
		}
	}
}

// Rule 1: each call ends soon, also of a long text.
func TestLongTexts(t *testing.T) {
	for _, piece := range []string{"a", "/", "a/", "/a", "é", "\xff", "\x00", "..", "../", "\xe2\x82/"} {
		s := strings.Repeat(piece, 1<<24/len(piece))
		if route.Valid(s) || route.Base(s) != "" || route.Within(s, s[:1]) || route.Within(s, s) || route.Within("a", s) {
			t.Errorf("many %q are a path", piece)
		}
		for name := range route.Names(s) {
			t.Errorf("many %q have a name of %d bytes", piece, len(name))
		}
		if parent, ok := route.Parent(s); parent != "" || ok {
			t.Errorf("many %q lie in a path of %d bytes", piece, len(parent))
		}
		if path, folder, e := route.Read(s); path != "" || folder || e != api.ErrPath {
			t.Errorf("Read of many %q: a path of %d bytes, %t, error %d", piece, len(path), folder, int(e))
		}
		if path, e := route.Join([]string{s}); path != "" || e != api.ErrPath {
			t.Errorf("Join of many %q: a path of %d bytes, error %d", piece, len(path), int(e))
		}
		if route.Compare(s, s) != 0 || route.Compare(s, s+"/") != -1 || route.Compare(s+"\x00", s) != 1 {
			t.Errorf("Compare of many %q", piece)
		}
	}
	if path, e := route.Join(slices.Repeat([]string{"a"}, 1<<22)); path != "" || e != api.ErrPath {
		t.Errorf("Join of many names: a path of %d bytes, error %d", len(path), int(e))
	}
	if path, e := route.Join(slices.Repeat([]string{strings.Repeat("a", 1<<20)}, 1<<16)); path != "" || e != api.ErrPath {
		t.Errorf("Join of many long texts: a path of %d bytes, error %d", len(path), int(e))
	}
}
