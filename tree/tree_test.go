package tree_test

import (
	"bytes"
	"fmt"
	"math"
	"math/rand"
	"slices"
	"strconv"
	"strings"
	"testing"

	"hamper/api"
	"hamper/tree"
)

func folder(path string) api.Node {
	return api.Node{Kind: api.Folder, Path: path, Mode: 0o750, Time: 7}
}

func file(path string) api.Node {
	return api.Node{Kind: api.File, Path: path, Data: []byte("text"), Mode: 0o640, Time: 8}
}

func link(path string) api.Node {
	return api.Node{Kind: api.Link, Path: path, Data: []byte("to"), Mode: 0o777, Time: 9}
}

// added is a folder as Grow adds it.
func added(path string) api.Node { return api.Node{Kind: api.Folder, Path: path, Mode: 493} }

// told tells nodes so that a failed test can be read.
func told(l []api.Node) string {
	s := ""
	for i, n := range l {
		if i == 12 {
			return s + " .. (" + strconv.Itoa(len(l)) + ")"
		}
		s += fmt.Sprintf(" {%d %.40q %.10q %d %d}", n.Kind, n.Path, n.Data[:min(len(n.Data), 10)], n.Mode, n.Time)
	}
	return s
}

// deep tells nodes in memory of their own, spare room too.
func deep(l []api.Node) []api.Node {
	l = slices.Clone(l[:cap(l)])
	for i, n := range l {
		if cap(n.Data) <= 1<<16 {
			l[i].Data = bytes.Clone(n.Data[:cap(n.Data)])[:len(n.Data)]
		}
	}
	return l
}

// whole is whether nodes, spare room too, are as they were.
func whole(l, before []api.Node) bool {
	l = l[:cap(l)]
	for i, n := range l {
		if cap(n.Data) <= 1<<16 && !bytes.Equal(n.Data[:cap(n.Data)], before[i].Data[:cap(n.Data)]) {
			return false
		}
	}
	return sameByWords(l, before)
}

// spared tells nodes with spare room behind them and behind their bytes.
func spared(l []api.Node) []api.Node {
	wide := append(slices.Clone(l), folder("spare"), file("spare"), link("spare"))
	for i, n := range wide {
		wide[i].Data = append(bytes.Clone(n.Data), "spare"...)[:len(n.Data)]
	}
	return wide[:len(l)]
}

// looks holds all that is told of nodes, by every format, against the words.
func looks(t *testing.T, l []api.Node) {
	t.Helper()
	before := deep(l)
	at, e := tree.Check(l)
	if wantAt, want := checkByWords(l); at != wantAt || e != want {
		t.Errorf("Check(%s): %d, error %d, want %d, error %d", told(l), at, int(e), wantAt, int(want))
	}
	have, e := tree.Grow(l)
	if want, wantError := growByWords(l); !sameByWords(have, want) || e != wantError {
		t.Errorf("Grow(%s):%s, error %d, want%s, error %d", told(l), told(have), int(e), told(want), int(wantError))
	}
	for format := -1; format <= 8; format++ {
		want, wantError := projectByWords(l, format)
		if e := tree.Fit(l, format); e != wantError {
			t.Errorf("Fit(%s, %d): error %d, want %d", told(l), format, int(e), int(wantError))
		}
		have, e := tree.Project(l, format)
		if !sameByWords(have, want) || e != wantError {
			t.Errorf("Project(%s, %d):%s, error %d, want%s, error %d", told(l), format, told(have), int(e), told(want), int(wantError))
		}
		if again, e := tree.Project(have, format); wantError == api.OK && (!sameByWords(again, have) || e != api.OK) { // P18.6
			t.Errorf("Project of what is projected (%s, %d):%s, error %d", told(have), format, told(again), int(e))
		}
	}
	if !tree.Same(l, before[:len(l)]) {
		t.Errorf("Same(%s, them): false", told(l))
	}
	if !whole(l, before) {
		t.Errorf("%s: what was handed in is changed", told(before))
	}
}

// checks asks for Check's answer, told by hand.
func checks(t *testing.T, what string, l []api.Node, at int, want api.Errno) {
	t.Helper()
	if have, e := tree.Check(l); have != at || e != want {
		t.Errorf("%s: Check(%s): %d, error %d, want %d, error %d", what, told(l), have, int(e), at, int(want))
	}
}

// The chapter's examples.
func TestExamples(t *testing.T) {
	for s, want := range map[int]tree.Day{
		0:         {1970, 1, 1, 0, 0, 0},
		-1:        {1969, 12, 31, 23, 59, 59},
		951782400: {2000, 2, 29, 0, 0, 0},
	} {
		if d, e := tree.DayOf(s); d != want || e != api.OK {
			t.Error(s, d, int(e))
		}
	}
	if date, time, e := tree.Dos(315532800); date != 33 || time != 0 || e != api.OK {
		t.Error(date, time, int(e))
	}
	if date, time, e := tree.Dos(0); date != 0 || time != 0 || e != api.ErrFit {
		t.Error(date, time, int(e))
	}
	ab := file("a/b")
	if l, e := tree.Grow([]api.Node{ab}); !sameByWords(l, []api.Node{added("a"), ab}) || e != api.OK {
		t.Error(told(l), int(e))
	}
	checks(t, "example", []api.Node{ab}, 0, api.ErrTree)
	checks(t, "example", []api.Node{file("a"), ab}, 1, api.ErrTree)
}

// P18.1: which node may be, and which may not: each kind with each number of bytes that is a limit.
func TestNodes(t *testing.T) {
	text := bytes.Repeat([]byte("x"), 1025)
	rows := []struct {
		kind, size int
		want       api.Errno
	}{
		{api.Folder, 0, api.OK}, {api.Folder, 1, api.ErrTree}, {api.Folder, 1024, api.ErrTree},
		{api.File, 0, api.OK}, {api.File, 1, api.OK}, {api.File, 1025, api.OK},
		{api.Link, 0, api.ErrTree}, {api.Link, 1, api.OK}, {api.Link, 2, api.OK}, {api.Link, 1023, api.OK}, {api.Link, 1024, api.OK}, {api.Link, 1025, api.ErrTree},
	}
	for _, kind := range []int{math.MinInt, -2, -1, 0, 4, 5, 257, 1 << 32, 1<<32 + 1, math.MaxInt} {
		for _, size := range []int{0, 1, 5} {
			rows = append(rows, struct {
				kind, size int
				want       api.Errno
			}{kind, size, api.ErrTree})
		}
	}
	for _, r := range rows {
		n := api.Node{Kind: r.kind, Path: "a", Data: text[:r.size:r.size]}
		checks(t, "kind and bytes", []api.Node{n}, 0, r.want)
		looks(t, []api.Node{n})
		looks(t, []api.Node{folder("a"), {Kind: r.kind, Path: "a/b", Data: n.Data}})
	}
	for _, n := range []api.Node{{Kind: api.Folder, Path: "a", Data: []byte{}}, {Kind: api.Folder, Path: "a", Data: text[:0]}, {Kind: api.File, Path: "a", Data: []byte{}}} {
		checks(t, "no byte", []api.Node{n}, 0, api.OK)
	}
	checks(t, "link without bytes", []api.Node{{Kind: api.Link, Path: "a", Data: text[:0]}}, 0, api.ErrTree)
}

// P18.1: a link with a byte 0, wherever it stands, may not be; a file may have any bytes.
func TestLinkBytes(t *testing.T) {
	for _, size := range []int{1, 2, 3, 10, 1023, 1024} {
		for _, at := range []int{0, 1, size / 2, size - 2, size - 1} {
			for c := range 256 {
				b := bytes.Repeat([]byte("y"), size)
				b[min(max(at, 0), size-1)] = byte(c)
				want := api.OK
				if c == 0 {
					want = api.ErrTree
				}
				checks(t, "link", []api.Node{{Kind: api.Link, Path: "a", Data: b}}, 0, want)
				checks(t, "file", []api.Node{{Kind: api.File, Path: "a", Data: b}}, 0, api.OK)
			}
		}
	}
	behind := append([]byte("y"), 0, 0)[:1]
	checks(t, "a byte 0 in the spare room", []api.Node{{Kind: api.Link, Path: "a", Data: behind}}, 0, api.OK)
}

// P18.1: Mode and Time at their limits, and one beyond.
func TestNumbers(t *testing.T) {
	const most = 1099511627776
	for _, n := range []api.Node{folder("a"), file("a"), link("a")} {
		for mode, want := range map[int]api.Errno{0: api.OK, 1: api.OK, 493: api.OK, 4094: api.OK, 4095: api.OK, -1: api.ErrTree, 4096: api.ErrTree, 65536: api.ErrTree, 1 << 32: api.ErrTree, math.MinInt: api.ErrTree, math.MaxInt: api.ErrTree} {
			m := n
			m.Mode = mode
			checks(t, "mode", []api.Node{m}, 0, want)
			looks(t, []api.Node{m})
		}
		for time, want := range map[int]api.Errno{0: api.OK, 1: api.OK, -1: api.OK, most: api.OK, -most: api.OK, most - 1: api.OK, 1 - most: api.OK, most + 1: api.ErrTree, -most - 1: api.ErrTree, math.MinInt: api.ErrTree, math.MinInt + 1: api.ErrTree, math.MaxInt: api.ErrTree} {
			m := n
			m.Time = time
			checks(t, "time", []api.Node{m}, 0, want)
			looks(t, []api.Node{m})
		}
	}
}

// P18.1, rule 1: a file of just MaxBytes, and one beyond; a folder and a link with as many.
func TestManyBytes(t *testing.T) {
	b := make([]byte, 1<<28+1)
	checks(t, "most bytes", []api.Node{{Kind: api.File, Path: "a", Data: b[:1<<28]}}, 0, api.OK)
	checks(t, "one byte more", []api.Node{{Kind: api.File, Path: "a", Data: b}}, 0, api.ErrTree)
	for _, kind := range []int{api.Folder, api.File, api.Link} {
		n := api.Node{Kind: kind, Path: "a", Data: b}
		checks(t, "too many bytes", []api.Node{n}, 0, api.ErrTree)
		if l, e := tree.Grow([]api.Node{n}); len(l) > 0 || e != api.ErrTree {
			t.Error(len(l), int(e))
		}
		if l, e := tree.Project([]api.Node{n}, api.FormatTar); len(l) > 0 || e != api.ErrTree {
			t.Error(len(l), int(e))
		}
	}
	b[1<<28-1] = 'z'
	l, e := tree.Grow([]api.Node{{Kind: api.File, Path: "a", Data: b[:1<<28]}})
	if e != api.OK || len(l) != 1 || len(l[0].Data) != 1<<28 || l[0].Data[1<<28-1] != 'z' {
		t.Error(len(l), int(e))
	}
}

// P18.1: what is no path, of each kind, alone and behind others; ErrPath comes ahead of ErrTree at one node, the place ahead of both.
func TestNoPath(t *testing.T) {
	for _, path := range []string{"", "/", "/a", "a/", "a//b", ".", "..", "../a", "a/..", "a/./b", "a\x00", strings.Repeat("a", 256), "a/" + strings.Repeat("b", 256), strings.Repeat("a/", 64) + "a", strings.Repeat("abc/", 256) + "a"} {
		for _, n := range []api.Node{folder(path), file(path), link(path), {Kind: 0, Path: path, Data: []byte{0}, Mode: -1, Time: math.MinInt}, {Path: path}} {
			checks(t, "no path", []api.Node{n}, 0, api.ErrPath)
			checks(t, "no path behind", []api.Node{folder("a"), n}, 1, api.ErrPath)
			checks(t, "no path behind, nor its end", []api.Node{folder("a"), file("a/b"), n, file("0"), {}}, 2, api.ErrPath)
			checks(t, "no path behind another fault", []api.Node{folder("b"), file("a"), n}, 1, api.ErrTree)
			looks(t, []api.Node{n})
			looks(t, []api.Node{folder("a"), n, file("c/d")})
			looks(t, []api.Node{file("c/d"), {Path: "q"}, n})
		}
	}
	for _, path := range []string{strings.Repeat("a", 255), strings.Repeat("é", 127), "...", " ", "\xff", "\n"} {
		checks(t, "path", []api.Node{file(path)}, 0, api.OK)
		looks(t, []api.Node{file(path)})
	}
}

// P18.1: each way to break it at one node, at each place, behind nodes that are as they must be.
func TestFirstBroken(t *testing.T) {
	good := []api.Node{folder("a"), folder("a/b"), file("a/b/c"), link("a/d"), file("b"), folder("c")}
	checks(t, "a tree", good, 0, api.OK)
	for at := range good {
		for what, broken := range map[string]func(n *api.Node){
			"kind":                          func(n *api.Node) { n.Kind = 4 },
			"mode":                          func(n *api.Node) { n.Mode = -1 },
			"time":                          func(n *api.Node) { n.Time = 1<<40 + 1 },
			"data":                          func(n *api.Node) { n.Data = append(bytes.Repeat([]byte("a"), 1024), 0); n.Kind |= 1 },
			"in a folder that is not there": func(n *api.Node) { n.Path += "0/a" },
			"in a file or link":             func(n *api.Node) { n.Path = "b/a" },
			"in itself":                     func(n *api.Node) { n.Path += "/a" },
			"ahead of all":                  func(n *api.Node) { n.Path = "0/a" },
		} {
			l := slices.Clone(good)
			broken(&l[at])
			checks(t, what, l, at, api.ErrTree)
			looks(t, l)
			l[at].Path = "a/" // two ways at one node
			checks(t, what+" and no path", l, at, api.ErrPath)
		}
		twice := slices.Insert(slices.Clone(good), at, good[at])
		checks(t, "twice", twice, at+1, api.ErrTree)
		for other := range good {
			if other < at {
				swapped := slices.Clone(good)
				swapped[at], swapped[other] = swapped[other], swapped[at]
				wantAt, want := checkByWords(swapped)
				checks(t, "swapped", swapped, wantAt, want)
				looks(t, swapped)
			}
		}
	}
}

// P18.1: no node; one Path of two kinds; the order is route.Compare's, not that of texts.
func TestOrder(t *testing.T) {
	checks(t, "none", nil, 0, api.OK)
	checks(t, "none", []api.Node{}, 0, api.OK)
	checks(t, "none", []api.Node{file("a"), {}}[:0], 0, api.OK)
	checks(t, "one path, two kinds", []api.Node{file("a"), folder("a")}, 1, api.ErrTree)
	checks(t, "one path, two kinds", []api.Node{folder("a"), file("a"), file("a/b")}, 1, api.ErrTree)
	checks(t, "rising as texts alone", []api.Node{folder("a"), file("a.b"), file("a/b")}, 2, api.ErrTree)
	checks(t, "rising by names", []api.Node{folder("a"), file("a/b"), file("a.b")}, 0, api.OK)
	checks(t, "rising by names", []api.Node{folder("a"), folder("a/b"), file("a/b/c"), file("a/b!"), link("a/c"), file("a!"), file("a!b"), file("a\xff"), file("b")}, 0, api.OK)
	checks(t, "falling", []api.Node{file("b"), file("a")}, 1, api.ErrTree)
	checks(t, "bytes above 127", []api.Node{file("z"), file("\x80")}, 0, api.OK)
	checks(t, "bytes above 127", []api.Node{file("\x80"), file("z")}, 1, api.ErrTree)
	checks(t, "one that is the other's beginning", []api.Node{file("ab"), file("a")}, 1, api.ErrTree)
	checks(t, "not above one farther ahead", []api.Node{file("c"), file("a"), file("b")}, 1, api.ErrTree)
}

// P18.1: the parent must be there, a Folder, and ahead.
func TestParents(t *testing.T) {
	checks(t, "not there", []api.Node{file("a/b")}, 0, api.ErrTree)
	checks(t, "not there", []api.Node{folder("a"), file("a/b/c")}, 1, api.ErrTree)
	checks(t, "a file", []api.Node{file("a"), file("a/b")}, 1, api.ErrTree)
	checks(t, "an empty file", []api.Node{{Kind: api.File, Path: "a"}, folder("a/b")}, 1, api.ErrTree)
	checks(t, "a link", []api.Node{link("a"), file("a/b")}, 1, api.ErrTree)
	checks(t, "a link within", []api.Node{folder("a"), link("a/b"), file("a/b/c")}, 2, api.ErrTree)
	checks(t, "behind", []api.Node{file("a/b"), folder("a")}, 0, api.ErrTree)
	checks(t, "of the same beginning", []api.Node{folder("a"), file("ab/c")}, 1, api.ErrTree)
	checks(t, "of the same end", []api.Node{folder("a"), folder("a/b"), folder("c"), file("c/b/d")}, 3, api.ErrTree)
	checks(t, "its parent's parent alone", []api.Node{folder("a"), folder("b"), file("b/c/d")}, 2, api.ErrTree)
	checks(t, "far ahead", []api.Node{folder("a"), folder("a/a"), folder("a/a/a"), file("a/a/a/a"), file("a/b")}, 0, api.OK)
	var chain []api.Node
	for depth := 1; depth <= 64; depth++ {
		chain = append(chain, folder(strings.Repeat("a/", depth-1)+"a"))
	}
	checks(t, "64 deep", chain, 0, api.OK)
	looks(t, chain)
	for at := range 63 {
		lacks := slices.Delete(slices.Clone(chain), at, at+1)
		checks(t, "one of 64 lacks", lacks, at, api.ErrTree)
		if at%9 == 0 {
			looks(t, lacks)
		}
		kinds := slices.Clone(chain)
		kinds[at] = link(kinds[at].Path)
		checks(t, "one of 64 is a link", kinds, at+1, api.ErrTree)
	}
	checks(t, "65 deep", append(chain, folder(strings.Repeat("a/", 64)+"a")), 64, api.ErrPath)
}

// many tells so many files, in order.
func many(count int) []api.Node {
	l := make([]api.Node, count)
	for i := range l {
		l[i] = api.Node{Kind: api.File, Path: fmt.Sprintf("f%06d", i), Time: 1 << 30}
	}
	return l
}

// P18.1: 65536 nodes are a tree, the next one breaks it; what breaks it ahead is told first.
func TestManyNodes(t *testing.T) {
	for _, count := range []int{65535, 65536} {
		checks(t, "not too many", many(count), 0, api.OK)
	}
	for _, count := range []int{65537, 65538, 70000} {
		checks(t, "too many", many(count), 65536, api.ErrTree)
	}
	l := many(65537)
	l[65536].Path = ""
	checks(t, "too many, and no path", l, 65536, api.ErrPath)
	l[65535].Mode = 4096
	checks(t, "the last one ahead", l, 65535, api.ErrTree)
	l[65534].Path = "a/"
	checks(t, "the one ahead of that", l, 65534, api.ErrPath)
	l = append(many(65536), api.Node{})
	checks(t, "too many, and none", l, 65536, api.ErrPath)
	l = append(many(65537), api.Node{})
	checks(t, "none behind too many", l, 65536, api.ErrTree)
	l = many(65537)
	l[65535].Path = l[65534].Path
	checks(t, "twice ahead of too many", l, 65535, api.ErrTree)
}

// P18.1: Same holds each field against the other's, and how many there are.
func TestSame(t *testing.T) {
	same := func(a, b []api.Node, want bool) {
		t.Helper()
		if tree.Same(a, b) != want || tree.Same(b, a) != want {
			t.Errorf("Same(%s,%s) is not %t", told(a), told(b), want)
		}
	}
	l := []api.Node{folder("a"), file("a/b"), link("a/c"), {}, {Kind: -5, Path: "//", Data: []byte{0}, Mode: math.MinInt, Time: math.MaxInt}}
	same(l, deep(l), true)
	same(l, l, true)
	same(nil, nil, true)
	same(nil, []api.Node{}, true)
	same(nil, l[:0], true)
	same(nil, []api.Node{{}}, false)
	same([]api.Node{{}}, []api.Node{{}}, true)
	same([]api.Node{{}}, []api.Node{{}, {}}, false)
	for count := range l {
		same(l, l[:count], false)
		same(l[:count], deep(l[:count])[:count], true)
	}
	for at := range l {
		for what, change := range map[string]func(n *api.Node){
			"kind":              func(n *api.Node) { n.Kind++ },
			"kind, far":         func(n *api.Node) { n.Kind += 1 << 32 },
			"path":              func(n *api.Node) { n.Path += "a" },
			"path, as long":     func(n *api.Node) { n.Path = "q" + n.Path[min(1, len(n.Path)):] },
			"data, one more":    func(n *api.Node) { n.Data = append(bytes.Clone(n.Data), 0) },
			"mode":              func(n *api.Node) { n.Mode++ },
			"mode, far":         func(n *api.Node) { n.Mode ^= 1 << 62 },
			"time":              func(n *api.Node) { n.Time-- },
			"time, its sign":    func(n *api.Node) { n.Time = -1 - n.Time },
			"mode for time":     func(n *api.Node) { n.Mode, n.Time = n.Mode+1, n.Time-1 },
			"first byte":        func(n *api.Node) { n.Data = append([]byte{1}, n.Data[min(1, len(n.Data)):]...) },
			"a byte of several": func(n *api.Node) { n.Data = append(bytes.Clone(n.Data[:len(n.Data)/2]), 'q') },
		} {
			other := deep(l)[:len(l)]
			change(&other[at])
			if sameByWords(l, other) {
				t.Error(what, at, "does not change it")
			}
			same(l, other, false)
		}
		other := deep(l)[:len(l)]
		other[at].Data = append([]byte{}, other[at].Data...)
		same(l, other, true)
	}
	same([]api.Node{{Data: nil}}, []api.Node{{Data: []byte{}}}, true)
	same([]api.Node{{Data: []byte("ab")[:1]}}, []api.Node{{Data: []byte("ac")[:1]}}, true)
	same([]api.Node{folder("a"), folder("b")}, []api.Node{folder("b"), folder("a")}, false)
}

// small are nodes of which all short lists are looked at.
func small() []api.Node {
	return []api.Node{
		folder("a"), file("a"), link("a"), folder("b"), folder("a/b"), file("a/b"), file("a/b/c"), file("a.b"), link("b/a"),
		{}, {Path: "a"}, {Kind: api.File, Path: "a//b"}, {Kind: api.Folder, Path: "a", Data: []byte("a")}, {Kind: api.File, Path: "data", Time: 1 << 32},
	}
}

// P18.1, P18.2, P18.5, P18.6: all lists of up to three nodes, and many of four, against the words.
func TestAllShort(t *testing.T) {
	nodes := small()
	looks(t, nil)
	for _, a := range nodes {
		looks(t, []api.Node{a})
		for _, b := range nodes {
			looks(t, []api.Node{a, b})
			for _, c := range nodes {
				looks(t, []api.Node{a, b, c})
			}
		}
	}
	random := rand.New(rand.NewSource(18))
	for range 4000 {
		l := make([]api.Node, 4)
		for i := range l {
			l[i] = nodes[random.Intn(len(nodes))]
		}
		looks(t, spared(l))
	}
}
