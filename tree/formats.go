package tree

import (
	"slices"

	"hamper/api"
)

const (
	zipNodes   = 1<<16 - 1
	gzipTime   = 1<<32 - 1
	streamPath = "data"
	streamMode = 0o644
)

// Fit tells whether a format can bear a tree.
func Fit(l []api.Node, format int) api.Errno {
	if format < api.FormatTar || format > api.FormatSolid {
		return api.ErrKind
	}
	if _, e := Check(l); e != api.OK {
		return api.ErrTree
	}
	if !bears(l, format) {
		return api.ErrFit
	}
	return api.OK
}

func bears(l []api.Node, format int) bool {
	switch format {
	case api.FormatZip:
		return len(l) <= zipNodes && !slices.ContainsFunc(l, func(n api.Node) bool {
			_, _, e := Dos(n.Time)
			return e != api.OK
		})
	case api.FormatGzip: // a tree's only node lies in no folder, so that its path has one name
		return isFileAlone(l) && l[0].Time >= 0 && l[0].Time <= gzipTime
	case api.FormatBzip2, api.FormatXz:
		return isFileAlone(l) && l[0].Path == streamPath
	}
	return true
}

func isFileAlone(l []api.Node) bool { return len(l) == 1 && l[0].Kind == api.File }

// Project tells what a format keeps of a tree.
func Project(l []api.Node, format int) ([]api.Node, api.Errno) {
	if e := Fit(l, format); e != api.OK {
		return nil, e
	}
	kept := renewed(l)
	for i := range kept {
		keep(&kept[i], format)
	}
	return kept, api.OK
}

// keep makes a node what a format that bears it keeps of it.
func keep(n *api.Node, format int) {
	switch format {
	case api.FormatZip:
		date, time, _ := Dos(n.Time)
		n.Time, _ = OfDos(date, time)
	case api.FormatGzip:
		n.Mode = streamMode
	case api.FormatBzip2, api.FormatXz:
		n.Mode, n.Time = streamMode, 0
	}
}
