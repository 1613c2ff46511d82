package archive

import (
	"mantle/api"
	"mantle/path"
)

// refuses is the error of an item that may not be, or does not stand behind the path ahead.
func refuses(x api.Item, ahead string) api.Errno {
	if len(x.Data) > api.MaxData {
		return api.ErrLong
	}
	if !isKind(x.Kind) || len(x.Data) > mostData(x.Kind) || !standsBehind(x.Path, ahead) {
		return api.ErrArg
	}
	return api.OK
}

func isKind(kind int8) bool {
	switch kind {
	case api.NodeFile, api.NodeDir, api.NodeLink, api.NodeWhite:
		return true
	}
	return false
}

// mostData is how many bytes an item of a kind may have.
func mostData(kind int8) int {
	if kind == api.NodeDir || kind == api.NodeWhite {
		return 0
	}
	return api.MaxData
}

// standsBehind tells whether p may be a path and stands behind the one ahead. Where none is ahead, that is the empty path: so p is never empty.
func standsBehind(p, ahead string) bool {
	clean, e := path.Clean(p)
	return e == api.OK && clean == p && p > ahead
}
