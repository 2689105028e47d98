package route_test

import (
	"bytes"
	"slices"
	"strings"

	"hamper/api"
)

// The model tells each answer by the document's words alone, with its own numbers, in other ways than the program: texts are bytes that are cut whole, and all is laid out in lists.

const (
	mostName  = 255
	mostDepth = 64
	mostPath  = 1024
)

// cut tells the pieces of a text between all of its bytes /, of which there is one more than of those.
func cut(s string) []string { return strings.Split(s, "/") }

func nameByWords(s string) bool {
	return len(s) >= 1 && len(s) <= mostName && strings.IndexByte(s, '/') < 0 && strings.IndexByte(s, 0) < 0 && s != "." && s != ".."
}

// namesByWords tells a path's names, none of what is no path.
func namesByWords(s string) []string {
	l := cut(s)
	if len(l) > mostDepth || len(s) > mostPath {
		return nil
	}
	for _, name := range l {
		if !nameByWords(name) {
			return nil
		}
	}
	return l
}

func joinByWords(names []string) (string, api.Errno) {
	path := ""
	for i, name := range names {
		if i > 0 {
			path += "/"
		}
		path += name
	}
	if len(names) == 0 || !slices.Equal(namesByWords(path), names) {
		return "", api.ErrPath
	}
	return path, api.OK
}

func parentByWords(s string) (string, bool) {
	l := namesByWords(s)
	if len(l) < 2 {
		return "", false
	}
	path, e := joinByWords(l[:len(l)-1])
	return path, e == api.OK
}

func baseByWords(s string) string {
	l := namesByWords(s)
	if len(l) == 0 {
		return ""
	}
	return l[len(l)-1]
}

func withinByWords(s, folder string) bool {
	all, first := namesByWords(s), namesByWords(folder)
	return len(first) > 0 && len(all) > len(first) && slices.Equal(all[:len(first)], first)
}

// compareByWords seeks the first place at which two texts' pieces are unlike.
func compareByWords(a, b string) int {
	x, y := cut(a), cut(b)
	for i := 0; ; i++ {
		switch {
		case i == len(x) && i == len(y):
			return 0
		case i == len(x):
			return -1
		case i == len(y):
			return 1
		case x[i] != y[i]:
			return bytes.Compare([]byte(x[i]), []byte(y[i]))
		}
	}
}

func readByWords(s string) (path string, folder bool, e api.Errno) {
	if len(namesByWords(s)) > 0 {
		return s, false, api.OK
	}
	if strings.HasSuffix(s, "/") && len(namesByWords(s[:len(s)-1])) > 0 {
		return s[:len(s)-1], true, api.OK
	}
	return "", false, api.ErrPath
}
