package tree_test

import (
	"fmt"
	"math/rand"
	"slices"
	"strings"
	"testing"
	"unsafe"

	"hamper/api"
	"hamper/tree"
)

// grows asks for Grow's answer, told by hand.
func grows(t *testing.T, what string, l, want []api.Node, wantError api.Errno) {
	t.Helper()
	before := deep(l)
	if have, e := tree.Grow(l); !sameByWords(have, want) || e != wantError {
		t.Errorf("%s: Grow(%s):%s, error %d, want%s, error %d", what, told(l), told(have), int(e), told(want), int(wantError))
	}
	if !whole(l, before) {
		t.Errorf("%s: what was handed in is changed", what)
	}
}

// P18.2: folders that lack at several depths, each added once; nodes in any order.
func TestGrow(t *testing.T) {
	grows(t, "none", nil, nil, api.OK)
	grows(t, "none", []api.Node{file("a")}[:0], nil, api.OK)
	grows(t, "one", []api.Node{file("a")}, []api.Node{file("a")}, api.OK)
	grows(t, "deep", []api.Node{file("a/b/c/d")}, []api.Node{added("a"), added("a/b"), added("a/b/c"), file("a/b/c/d")}, api.OK)
	grows(t, "two in one", []api.Node{file("a/c"), link("a/b")}, []api.Node{added("a"), link("a/b"), file("a/c")}, api.OK)
	grows(t, "at several depths",
		[]api.Node{file("z"), file("a/b/c/x"), link("a/b/d"), folder("a/b/c/y/w"), file("b/b/b"), file("a/a")},
		[]api.Node{added("a"), file("a/a"), added("a/b"), added("a/b/c"), file("a/b/c/x"), added("a/b/c/y"), folder("a/b/c/y/w"), link("a/b/d"), added("b"), added("b/b"), file("b/b/b"), file("z")}, api.OK)
	grows(t, "by names, not as texts", []api.Node{file("a.b"), file("a/b"), file("a/b.c/d"), link("a/b!")},
		[]api.Node{added("a"), file("a/b"), link("a/b!"), added("a/b.c"), file("a/b.c/d"), file("a.b")}, api.OK)
	grows(t, "only an empty folder", []api.Node{folder("a/b")}, []api.Node{added("a"), folder("a/b")}, api.OK)
}

// P18.2: a folder that is given stays as it is, wherever it is given; another kind of node with one in it is no folder.
func TestGrowGiven(t *testing.T) {
	for _, l := range [][]api.Node{{folder("a"), file("a/b/c")}, {file("a/b/c"), folder("a")}} {
		grows(t, "the upper folder is given", l, []api.Node{folder("a"), added("a/b"), file("a/b/c")}, api.OK)
	}
	for _, l := range [][]api.Node{{folder("a/b"), file("a/b/c")}, {file("a/b/c"), folder("a/b")}} {
		grows(t, "the lower folder is given", l, []api.Node{added("a"), folder("a/b"), file("a/b/c")}, api.OK)
	}
	for _, top := range []api.Node{file("a"), link("a")} {
		grows(t, "no folder", []api.Node{top, file("a/b")}, nil, api.ErrTree)
		grows(t, "no folder", []api.Node{file("a/b"), top}, nil, api.ErrTree)
		grows(t, "no folder", []api.Node{folder("c"), file("a/b/c/d"), top}, nil, api.ErrTree)
		grows(t, "nothing in it", []api.Node{file("b/c"), top}, []api.Node{top, added("b"), file("b/c")}, api.OK)
	}
	grows(t, "no folder within", []api.Node{link("a/b"), file("a/b/c")}, nil, api.ErrTree)
	odd := api.Node{Kind: api.Folder, Path: "a", Mode: 4095, Time: -1 << 40}
	grows(t, "its own mode and time", []api.Node{file("a/b"), odd}, []api.Node{odd, file("a/b")}, api.OK)
	odd.Mode, odd.Time = 0, 0
	grows(t, "its own mode and time", []api.Node{file("a/b"), odd}, []api.Node{odd, file("a/b")}, api.OK)
}

// P18.2: the first node that breaks it, in the order that is given; only then what they are together.
func TestGrowErrors(t *testing.T) {
	none, may := api.Node{Kind: api.File, Path: "a//b"}, api.Node{Kind: api.File, Path: "c", Mode: -1}
	grows(t, "no path", []api.Node{none}, nil, api.ErrPath)
	grows(t, "may not be", []api.Node{may}, nil, api.ErrTree)
	grows(t, "path first", []api.Node{file("b"), none, may, none}, nil, api.ErrPath)
	grows(t, "the other first", []api.Node{file("b"), may, none}, nil, api.ErrTree)
	grows(t, "both at one", []api.Node{{Kind: 9, Path: ".."}}, nil, api.ErrPath)
	grows(t, "twice", []api.Node{file("a"), file("b"), file("a")}, nil, api.ErrTree)
	grows(t, "twice, as other kinds", []api.Node{folder("a"), link("a")}, nil, api.ErrTree)
	grows(t, "twice, both folders", []api.Node{folder("a"), file("a/b"), folder("a")}, nil, api.ErrTree)
	grows(t, "twice ahead of no path", []api.Node{file("a"), file("a"), none}, nil, api.ErrTree)
	grows(t, "no path ahead of twice", []api.Node{file("a"), none, file("a")}, nil, api.ErrPath)
	grows(t, "no path at one that would sort behind", []api.Node{file("z"), {Path: "y/"}, {Path: "a"}}, nil, api.ErrPath)
	grows(t, "no path behind what is no tree", []api.Node{file("a"), file("a/b"), none}, nil, api.ErrPath)
	for _, n := range small() {
		for _, m := range small() {
			for _, k := range []api.Node{none, may, file("a")} {
				looks(t, []api.Node{n, file("a"), m, k})
			}
		}
	}
}

// P18.2, rule 1: as many nodes as may be, and one more, given or added.
func TestGrowMany(t *testing.T) {
	ends := func(what string, l []api.Node, count int, want api.Errno) {
		t.Helper()
		have, e := tree.Grow(l)
		if len(have) != count || e != want {
			t.Errorf("%s: %d nodes, error %d, want %d, error %d", what, len(have), int(e), count, int(want))
		}
		if at, e := tree.Check(have); e != api.OK {
			t.Errorf("%s: no tree at %d, error %d", what, at, int(e))
		}
	}
	l := many(65536)
	slices.Reverse(l)
	ends("all given", l, 65536, api.OK)
	ends("one more", many(65537), 0, api.ErrTree)
	ends("far more", many(70000), 0, api.ErrTree)
	ends("far more, and no path", append(many(70000), api.Node{}), 0, api.ErrPath)
	l[0].Path = "z/a"
	ends("one added", l, 0, api.ErrTree)
	ends("one added", l[:65535], 65536, api.OK)
	l[65534].Path = "y/a"
	ends("two added", l[:65535], 0, api.ErrTree)
	l[65534].Path = "z/b"
	ends("one added for two", l[:65535], 65536, api.OK)
	for i := range l {
		l[i].Path = fmt.Sprintf("%d/%d", i/2, i)
	}
	ends("one added for two each", l[:43690], 65535, api.OK)
	ends("one added for two each", l[:43691], 0, api.ErrTree)
	for i := range l {
		l[i].Path = fmt.Sprintf("%d/%d", i, i)
	}
	ends("one added for each", l[:32768], 65536, api.OK)
	ends("one added for each", l[:32769], 0, api.ErrTree)
	ends("one added for each", l, 0, api.ErrTree)
	for i := range l {
		l[i].Path = fmt.Sprintf("%06d%s", i, strings.Repeat("/abcdefg", 63))
	}
	ends("63 added for each", l[:1024], 65536, api.OK)
	ends("63 added for each", l[:1025], 0, api.ErrTree)
	ends("63 added for each", l, 0, api.ErrTree)
	ends("63 added for each, and no path", append(l, api.Node{}), 0, api.ErrPath)
	for i := range l {
		l[i].Path = strings.Repeat("abcdefghijklmn/", 6) + fmt.Sprintf("x/%06d", i)
	}
	ends("seven added for all", l[:65529], 65536, api.OK)
	ends("seven added for all", l[:65530], 0, api.ErrTree)
}

// randomPath tells a path of few names, so that many lie in one another.
func randomPath(random *rand.Rand) string {
	names := []string{"a", "b", "a.b", "a!", "\xff", "é", ".a", "data", "ab", strings.Repeat("n", 255)}
	path := names[random.Intn(len(names))]
	for random.Intn(5) > 1 && len(path) < 500 {
		path += "/" + names[random.Intn(len(names))]
	}
	return path
}

// randomNode tells one that most often may be.
func randomNode(random *rand.Rand) api.Node {
	n := api.Node{Kind: 1 + random.Intn(3), Path: randomPath(random), Mode: random.Intn(4096), Time: random.Intn(1 << 33)}
	if n.Kind != api.Folder {
		n.Data = make([]byte, random.Intn(6)+n.Kind-2)
		for i := range n.Data {
			n.Data[i] = byte(1 + random.Intn(255))
		}
	}
	switch random.Intn(200) {
	case 0:
		n.Mode = 4096
	case 1:
		n.Path += "/"
	case 2:
		n.Kind = 4
	case 3:
		n.Time = -n.Time
	}
	return n
}

// P18.1, P18.2, P18.5, P18.6: many lists of nodes against the words; also what grew of them, as it is and with one node changed, removed or moved.
func TestRandom(t *testing.T) {
	random := rand.New(rand.NewSource(1018))
	grown := 0
	for range 1500 {
		l := make([]api.Node, random.Intn(14))
		taken := map[string]bool{}
		for i := range l {
			l[i] = randomNode(random)
			if random.Intn(30) > 0 {
				for taken[l[i].Path] {
					l[i].Path = randomPath(random)
				}
				taken[l[i].Path] = true
			}
			if random.Intn(20) > 0 && strings.Count(l[i].Path, "/") < 3 {
				l[i].Kind, l[i].Data = api.Folder, nil
			}
		}
		l = spared(l)
		looks(t, l)
		whole, e := tree.Grow(l)
		if e != api.OK || len(whole) == 0 {
			continue
		}
		grown++
		looks(t, whole)
		again, e := tree.Grow(whole)
		if !sameByWords(again, whole) || e != api.OK {
			t.Errorf("Grow of what grew:%s, error %d", told(again), int(e))
		}
		at := random.Intn(len(whole))
		looks(t, slices.Delete(slices.Clone(whole), at, at+1))
		to := random.Intn(len(whole))
		moved := slices.Clone(whole)
		moved[at], moved[to] = moved[to], moved[at]
		looks(t, moved)
		again, e = tree.Grow(moved)
		if !sameByWords(again, whole) || e != api.OK {
			t.Errorf("Grow of what is moved:%s, error %d", told(again), int(e))
		}
		moved[at] = randomNode(random)
		looks(t, moved)
	}
	if grown < 300 {
		t.Error("only", grown, "of the lists grew")
	}
}

// apart is whether two texts have no byte of memory in common.
func apart(a, b string) bool {
	if a == "" || b == "" {
		return true
	}
	first, second := uintptr(unsafe.Pointer(unsafe.StringData(a))), uintptr(unsafe.Pointer(unsafe.StringData(b)))
	return first+uintptr(len(a)) <= second || second+uintptr(len(b)) <= first
}

// isNew asks that what is told shares no memory with what was handed in, nor its lists with one another, spare room too.
func isNew(t *testing.T, what string, in, out []api.Node) {
	t.Helper()
	before := deep(in)
	answer := deep(out)[:len(out)]
	for i, n := range out {
		for _, m := range in {
			if !apart(n.Path, m.Path) {
				t.Errorf("%s: the path %q is not new", what, n.Path)
			}
		}
		for j := range n.Data[:cap(n.Data)] {
			n.Data[:cap(n.Data)][j] ^= 255
		}
		if !whole(in, before) {
			t.Errorf("%s: the bytes of node %d are those that were handed in", what, i)
		}
		for j, m := range out {
			if j > i && string(m.Data) != string(answer[j].Data) {
				t.Errorf("%s: the bytes of node %d and %d are the same", what, i, j)
			}
		}
	}
	for _, n := range out[len(out):cap(out)] {
		if n.Kind != 0 || n.Path != "" || cap(n.Data) != 0 {
			t.Errorf("%s: in the spare room stands%s", what, told([]api.Node{n}))
		}
	}
	clear(out[:cap(out)])
	if !whole(in, before) {
		t.Errorf("%s: the list is the one that was handed in", what)
	}
}

// Rule 4: what Grow and Project tell is new memory.
func TestNew(t *testing.T) {
	shared := []byte("shared by two")
	l := spared([]api.Node{folder("a"), file("a/b"), link("a/c"), file("a/d"), file("b")})
	l[1].Data, l[2].Data, l[4].Data = shared[:6], shared[:6:6], shared[3:3]
	for i := range l {
		l[i].Time = 1 << 30
	}
	for range 2 {
		have, e := tree.Grow(l)
		if e != api.OK {
			t.Fatal(int(e))
		}
		isNew(t, "Grow", l, have)
		slices.Reverse(l)
	}
	for _, format := range []int{api.FormatTar, api.FormatZip, api.FormatSolid} {
		have, e := tree.Project(l, format)
		if e != api.OK {
			t.Fatal(format, int(e))
		}
		isNew(t, "Project", l, have)
	}
	one := spared([]api.Node{{Kind: api.File, Path: strings.Clone("data"), Data: []byte("one"), Mode: 420, Time: 0}})
	for _, format := range []int{api.FormatTar, api.FormatGzip, api.FormatBzip2, api.FormatXz, api.FormatSolid} {
		have, e := tree.Project(one, format)
		if e != api.OK {
			t.Fatal(format, int(e))
		}
		isNew(t, "Project", one, have)
	}
	lone, e := tree.Grow([]api.Node{file("x/y/z")})
	if e != api.OK || !apart(lone[0].Path, lone[2].Path) {
		t.Error(told(lone), int(e))
	}
}
