package route

import (
	"iter"

	"hamper/api"
)

const separator = "/"

// pieces cuts a text at each /, whatever it is. Its bytes need be no runes: one that is none is gone over alone, so that no / behind it is missed, and the places count bytes.
func pieces(s string) iter.Seq[string] {
	return func(yield func(string) bool) {
		from := 0
		for at, r := range s {
			if r != '/' {
				continue
			}
			if !yield(s[from:at]) {
				return
			}
			from = at + len(separator)
		}
		yield(s[from:])
	}
}

// isName is whether a text is a name.
func isName(s string) bool {
	if s == "" || len(s) > api.MaxName || s == "." || s == ".." {
		return false
	}
	for _, r := range s {
		if r == '/' || r == 0 {
			return false
		}
	}
	return true
}
