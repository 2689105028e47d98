package tree_test

import (
	"bytes"
	"math"
	"math/rand"
	"slices"
	"testing"

	"hamper/api"
	"hamper/tree"
)

// keeps asks for Fit's and Project's answers, told by hand; nothing is kept beside an error.
func keeps(t *testing.T, what string, l []api.Node, format int, want []api.Node, wantError api.Errno) {
	t.Helper()
	before := deep(l)
	if e := tree.Fit(l, format); e != wantError {
		t.Errorf("%s: Fit(%s, %d): error %d, want %d", what, told(l), format, int(e), int(wantError))
	}
	if have, e := tree.Project(l, format); !sameByWords(have, want) || e != wantError {
		t.Errorf("%s: Project(%s, %d):%s, error %d, want%s, error %d", what, told(l), format, told(have), int(e), told(want), int(wantError))
	}
	if !whole(l, before) {
		t.Errorf("%s: what was handed in is changed", what)
	}
}

// P18.5: a number that is no format, with a tree and with what is none; then what is no tree, by every format.
func TestFormats(t *testing.T) {
	for _, format := range []int{0, 7, -1, 8, 255, 257, 1 << 32, 1<<32 + 1, math.MaxInt, math.MinInt} {
		keeps(t, "no format", nil, format, nil, api.ErrKind)
		keeps(t, "no format", []api.Node{file("data")}, format, nil, api.ErrKind)
		keeps(t, "no format, no tree", []api.Node{file("data/a")}, format, nil, api.ErrKind)
		keeps(t, "no format, no path", []api.Node{{}}, format, nil, api.ErrKind)
	}
	for format := 1; format <= 6; format++ {
		for _, l := range [][]api.Node{{file("a/b")}, {{}}, {file("a//b")}, {file("data"), file("data")}, {{Kind: api.File, Path: "data", Mode: -1}}, {{Kind: api.File, Path: "data", Time: -1<<40 - 1}}, {file("b"), file("a")}} {
			keeps(t, "no tree", l, format, nil, api.ErrTree)
		}
		keeps(t, "no tree", many(65537), format, nil, api.ErrTree)
	}
}

// P18.5: FormatTar and FormatSolid keep all of every tree.
func TestAllKept(t *testing.T) {
	l := []api.Node{
		{Kind: api.Folder, Path: "a", Mode: 4095, Time: -1 << 40},
		{Kind: api.File, Path: "a/b", Data: []byte{0, 1, 255}, Mode: 0, Time: 1 << 40},
		{Kind: api.Link, Path: "a/c", Data: []byte("../.."), Mode: 1, Time: -1},
		{Kind: api.File, Path: "data", Mode: 493, Time: 0},
	}
	for _, format := range []int{api.FormatTar, api.FormatSolid} {
		for count := range len(l) + 1 {
			keeps(t, "all", l[:count], format, l[:count], api.OK)
		}
		keeps(t, "one alone", l[3:], format, l[3:], api.OK)
		have, e := tree.Project(many(65536), format)
		if !tree.Same(have, many(65536)) || e != api.OK {
			t.Error(format, len(have), int(e))
		}
	}
}

// P18.5: FormatZip refuses what has a time that Dos refuses, and too many nodes; it keeps all but a time's odd second.
func TestZip(t *testing.T) {
	at := func(time int) []api.Node {
		l := []api.Node{{Kind: api.Folder, Path: "a", Mode: 4095, Time: 315532800}, {Kind: api.File, Path: "a/b", Data: []byte{0, 255}, Mode: 0, Time: 1234567890}, {Kind: api.Link, Path: "c", Data: []byte("x"), Mode: 1, Time: 4354819199}}
		for i := range l {
			if time != 0 {
				l[i].Time = time
			}
		}
		return l
	}
	want := at(0)
	want[2].Time--
	keeps(t, "zip", at(0), api.FormatZip, want, api.OK)
	keeps(t, "none", nil, api.FormatZip, nil, api.OK)
	for _, time := range []int{315532800, 315532801, 315532802, 4354819198, 4354819199, 1234567891, 1 << 32} {
		keeps(t, "a time that zip has", at(time), api.FormatZip, at(time-time%2), api.OK)
	}
	for _, time := range []int{315532799, 315532798, 4354819200, 1, -1, 1 << 40, -1 << 40} {
		keeps(t, "a time that zip has not", at(time), api.FormatZip, nil, api.ErrFit)
		for i := range 3 {
			l := at(0)
			l[i].Time = time
			keeps(t, "a time of one", l, api.FormatZip, nil, api.ErrFit)
			l[2].Mode = 4096
			keeps(t, "a time of one, and no tree", l, api.FormatZip, nil, api.ErrTree)
		}
	}
	have, e := tree.Project(many(65535), api.FormatZip)
	if !tree.Same(have, many(65535)) || e != api.OK || tree.Fit(many(65535), api.FormatZip) != api.OK {
		t.Error(len(have), int(e))
	}
	keeps(t, "one too many", many(65536), api.FormatZip, nil, api.ErrFit)
	l := many(65535)
	l[65534].Time = 0
	keeps(t, "the last one's time", l, api.FormatZip, nil, api.ErrFit)
}

// P18.5: FormatGzip bears one File alone at the top, of a time that is not below 0 and has four bytes.
func TestGzip(t *testing.T) {
	one := api.Node{Kind: api.File, Path: "a.txt", Data: []byte{0, 1, 255}, Mode: 4095, Time: 5}
	want := one
	want.Mode = 420
	keeps(t, "one file", []api.Node{one}, api.FormatGzip, []api.Node{want}, api.OK)
	for _, time := range []int{0, 1, 1 << 31, 1<<32 - 2, 1<<32 - 1} {
		one.Time, want.Time = time, time
		keeps(t, "a time that gzip has", []api.Node{one}, api.FormatGzip, []api.Node{want}, api.OK)
	}
	for _, time := range []int{-1, -2, -1 << 40, 1 << 32, 1<<32 + 1, 1 << 40} {
		one.Time = time
		keeps(t, "a time that gzip has not", []api.Node{one}, api.FormatGzip, nil, api.ErrFit)
	}
	empty := api.Node{Kind: api.File, Path: "\xff"}
	want = empty
	want.Mode = 420
	keeps(t, "an empty file", []api.Node{empty}, api.FormatGzip, []api.Node{want}, api.OK)
	noOneFile(t, api.FormatGzip)
}

// noOneFile asks that a stream's format bears nothing but one file.
func noOneFile(t *testing.T, format int) {
	t.Helper()
	keeps(t, "none", nil, format, nil, api.ErrFit)
	keeps(t, "a folder", []api.Node{folder("data")}, format, nil, api.ErrFit)
	keeps(t, "a link", []api.Node{link("data")}, format, nil, api.ErrFit)
	keeps(t, "two files", []api.Node{file("data"), file("e")}, format, nil, api.ErrFit)
	keeps(t, "two files", []api.Node{file("a"), file("data")}, format, nil, api.ErrFit)
	keeps(t, "a file in a folder", []api.Node{folder("data"), file("data/data")}, format, nil, api.ErrFit)
	keeps(t, "a file and a folder", []api.Node{file("data"), folder("e")}, format, nil, api.ErrFit)
	keeps(t, "a file of two names", []api.Node{file("data/data")}, format, nil, api.ErrTree)
	keeps(t, "many", many(65536), format, nil, api.ErrFit)
}

// P18.5: FormatBzip2 and FormatXz bear one File alone whose Path is data, of which they keep Path and Data.
func TestStreams(t *testing.T) {
	for _, format := range []int{api.FormatBzip2, api.FormatXz} {
		for _, n := range []api.Node{{Mode: 0, Time: 0}, {Mode: 4095, Time: 1 << 40}, {Mode: 420, Time: -1 << 40}, {Mode: 493, Time: -1}, {Data: []byte{0}, Mode: 1, Time: 1 << 32}, {Data: bytes.Repeat([]byte("x"), 5000)}} {
			n.Kind, n.Path = api.File, "data"
			keeps(t, "one file", []api.Node{n}, format, []api.Node{{Kind: api.File, Path: "data", Data: n.Data, Mode: 420}}, api.OK)
			for _, path := range []string{"Data", "dat", "data ", "data2", "adata", "DATA", "date", "data\xff", "a", "data.txt"} {
				n.Path = path
				keeps(t, "another path", []api.Node{n}, format, nil, api.ErrFit)
			}
		}
		noOneFile(t, format)
	}
}

// P18.6: Project of what is projected is the same, as are what two formats keep of a tree that both bear whole.
func TestProjectAgain(t *testing.T) {
	random := rand.New(rand.NewSource(6))
	for range 400 {
		l := []api.Node{}
		for range random.Intn(6) + 1 {
			n := randomNode(random)
			n.Time = random.Intn(1 << 33)
			l = append(l, n)
		}
		if random.Intn(3) == 0 {
			l = []api.Node{{Kind: api.File, Path: "data", Data: []byte("d"), Mode: random.Intn(4096), Time: random.Intn(1<<33) - 1<<30}}
		}
		for i := range l {
			l[i].Time = max(l[i].Time, 315532800*(i%2))
		}
		if grown, e := tree.Grow(l); e == api.OK {
			l = grown
		}
		for format := 1; format <= 6; format++ {
			once, e := tree.Project(l, format)
			if want, wantError := projectByWords(l, format); !sameByWords(once, want) || e != wantError {
				t.Errorf("Project(%s, %d):%s, error %d", told(l), format, told(once), int(e))
			}
			if e != api.OK {
				continue
			}
			twice, e := tree.Project(once, format)
			if !sameByWords(once, twice) || e != api.OK {
				t.Errorf("Project of what is projected (%s, %d):%s, error %d", told(once), format, told(twice), int(e))
			}
			if !slices.EqualFunc(l, once, func(a, b api.Node) bool {
				return a.Kind == b.Kind && a.Path == b.Path && bytes.Equal(a.Data, b.Data)
			}) {
				t.Errorf("Project(%s, %d) changed paths, kinds or contents:%s", told(l), format, told(once))
			}
		}
	}
}
