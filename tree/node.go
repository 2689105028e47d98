package tree

import (
	"bytes"
	"slices"
	"strings"

	"hamper/api"
	"hamper/route"
)

const allModes = 1 << 12

// alone tells what is wrong with a node whatever stands beside it.
func alone(n api.Node) api.Errno {
	if !route.Valid(n.Path) {
		return api.ErrPath
	}
	if !mayHold(n) || n.Mode < 0 || n.Mode >= allModes || !isTime(n.Time) {
		return api.ErrTree
	}
	return api.OK
}

// mayHold is whether a node of its kind may have its bytes.
func mayHold(n api.Node) bool {
	switch n.Kind {
	case api.Folder:
		return len(n.Data) == 0
	case api.File:
		return len(n.Data) <= api.MaxBytes
	case api.Link:
		return len(n.Data) > 0 && len(n.Data) <= api.MaxPath && !slices.Contains(n.Data, 0)
	}
	return false
}

// isTime is whether a node's time may be so many seconds.
func isTime(seconds int) bool { return seconds >= -api.MaxTime && seconds <= api.MaxTime }

// renewed tells the same nodes, none of whose memory is that of those.
func renewed(l []api.Node) []api.Node {
	made := make([]api.Node, len(l))
	for i, n := range l {
		n.Path, n.Data = strings.Clone(n.Path), bytes.Clone(n.Data)
		made[i] = n
	}
	return made
}
