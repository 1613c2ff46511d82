package face

import "mantle/api"

// The sixteen files. Their letters tell what they can: write, cut, holes, sync. A value's methods are those of its type, so each set of them needs a type of its own.
type (
	file struct {
		api.File
	}
	fileW struct {
		api.File
		api.Writer
	}
	fileC struct {
		api.File
		api.Cutter
	}
	fileWC struct {
		api.File
		api.Writer
		api.Cutter
	}
	fileH struct {
		api.File
		api.Holer
	}
	fileWH struct {
		api.File
		api.Writer
		api.Holer
	}
	fileCH struct {
		api.File
		api.Cutter
		api.Holer
	}
	fileWCH struct {
		api.File
		api.Writer
		api.Cutter
		api.Holer
	}
	fileS struct {
		api.File
		api.Syncer
	}
	fileWS struct {
		api.File
		api.Writer
		api.Syncer
	}
	fileCS struct {
		api.File
		api.Cutter
		api.Syncer
	}
	fileWCS struct {
		api.File
		api.Writer
		api.Cutter
		api.Syncer
	}
	fileHS struct {
		api.File
		api.Holer
		api.Syncer
	}
	fileWHS struct {
		api.File
		api.Writer
		api.Holer
		api.Syncer
	}
	fileCHS struct {
		api.File
		api.Cutter
		api.Holer
		api.Syncer
	}
	fileWCHS struct {
		api.File
		api.Writer
		api.Cutter
		api.Holer
		api.Syncer
	}
)
