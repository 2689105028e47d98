package route_test

import (
	"math/rand"
	"strings"
)

// letters are what few texts need to be unlike in all that the words ask for: what parts names, what a name may not be, a byte that none may have, a byte below / (the .), and bytes above it of which one is no rune.
const letters = "/.ab\x00\xff"

// textsOf tells all texts of at most so many bytes of those letters, the empty one first.
func textsOf(letters string, most int) []string {
	all := []string{""}
	last := all
	for range most {
		var next []string
		for _, s := range last {
			for i := range len(letters) {
				next = append(next, s+letters[i:i+1])
			}
		}
		all = append(all, next...)
		last = next
	}
	return all
}

// runes are texts that are one rune each, of one to four bytes, and such as are none: bytes alone, and runes that are cut off.
var runes = []string{
	"a", "z", " ", "!", "\x01", "\x7f", ".", "-", "0", "\\", ":",
	"\u0080", "é", "\u07ff", "\u0800", "€", "\ufffd", "\uffff", "\U00010000", "😀", "\U0010ffff",
	"\x80", "\xbf", "\xc3", "\xe2", "\xe2\x82", "\xf0\x9f", "\xf0\x9f\x98", "\xfe", "\xff", "\xff\xfe", "\xc0\xaf", "\xed\xa0\x80", "\xf4\x90\x80\x80",
}

// wide tells a text of just so many bytes of that rune, with bytes x ahead where it does not fill it.
func wide(r string, size int) string {
	return strings.Repeat("x", size%len(r)) + strings.Repeat(r, size/len(r))
}

// cutOff tells a text of just so many bytes of that rune, of which the last one is cut off where they do not fill it.
func cutOff(r string, size int) string {
	return strings.Repeat(r, size/len(r)+1)[:size]
}

// deep tells a path of so many names of one byte.
func deep(count int) string {
	return strings.Repeat("n/", count)[:2*count-1]
}

// long tells a path of so many bytes, of names of that size (the last one may be longer or shorter by what is left).
func long(size, name int) string {
	var l []string
	for size > 2*name+1 {
		l = append(l, strings.Repeat("m", name))
		size -= name + 1
	}
	half := size
	if size > mostName {
		half = size / 2
		l = append(l, strings.Repeat("h", size-half-1))
	}
	return strings.Join(append(l, strings.Repeat("l", half)), "/")
}

// randomName tells a text that is a name or almost one.
func randomName(r *rand.Rand, most int) string {
	var b strings.Builder
	for size := r.Intn(most + 1); b.Len() < size; {
		b.WriteString(runes[r.Intn(len(runes))])
	}
	switch r.Intn(60) {
	case 0:
		return b.String() + "\x00"
	case 1:
		return "\x00" + b.String()
	case 2:
		return ".."
	case 3:
		return ""
	}
	return b.String()
}

// randomText tells a text of pieces of any size, of which many are paths, many just not, some far from it.
func randomText(r *rand.Rand) string {
	most := []int{1, 2, 8, 15, 16, 30, 255, 256, 300}[r.Intn(9)]
	count := 1 + r.Intn(8)
	if r.Intn(3) == 0 {
		count = 1 + r.Intn(70)
	}
	var l []string
	for range count {
		name := randomName(r, most)
		if name == "" && r.Intn(4) > 0 {
			name = "e"
		}
		l = append(l, name)
	}
	s := strings.Join(l, "/")
	switch r.Intn(12) {
	case 0:
		return s + "/"
	case 1:
		return "/" + s
	case 2:
		return s[:min(len(s), mostPath)]
	case 3:
		return s[:min(len(s), mostPath+1)]
	}
	return s
}

// edges are texts at the limits that the document names, and one beyond them.
func edges() []string {
	l := []string{
		"", ".", "..", "...", "....", ".a", "..a", "a.", "a..", ". ", " .", "/", "//", "/a", "a/", "a//", "a//b", "/.", "./", "../", "/..", "a/.", "a/..", "./a", "../a", "a/../b", "a/./b", ".../a", "a/...", "a/.b", "a/..b",
		"\x00", "\x00a", "a\x00", "a\x00b", "a/\x00", "\x00/a", "a/b\x00", "a/\x00b", "a\x00/b", "a/b", "a/b/c", "a.b", "a b", "a!b", "a/b/", "a/b//", "\ufffd", "\ufffd/\ufffd", "\xff\xfe", "\xfe/\xff",
	}
	for c := range 256 {
		l = append(l, string([]byte{byte(c)}), "a"+string([]byte{byte(c)}), string([]byte{byte(c)})+"b", "a/"+string([]byte{byte(c)}), "a"+string([]byte{byte(c)})+"b")
	}
	for _, r := range runes {
		for _, size := range []int{254, 255, 256, 257} {
			name := wide(r, size)
			l = append(l, name, cutOff(r, size), "a/"+name, name+"/a", name+"/", name+"/"+name)
		}
		for _, size := range []int{1023, 1024, 1025, 1026} {
			three := wide(r, 255) + "/" + wide(r, 255) + "/" + wide(r, 255) + "/"
			l = append(l, three+wide(r, size-768-2)+"/"+r[:1], three+wide(r, size-768-5)+"/zzzz", three+cutOff(r, size-768-2)+"/y", three+wide(r, 200)+"/"+cutOff(r, size-768-201))
		}
	}
	for _, count := range []int{1, 2, 63, 64, 65, 66, 511, 512, 513, 600} {
		l = append(l, deep(count), deep(count)+"/", "/"+deep(count), deep(count)+"/.", deep(count)+"\x00")
	}
	for _, size := range []int{1023, 1024, 1025, 1026, 5000} {
		for _, name := range []int{1, 15, 16, 17, 100, 254, 255, 256, 5000} {
			s := long(size, name)
			l = append(l, s, s+"/", s+"//", "/"+s)
		}
	}
	return l
}
