package face

import "mantle/api"

// parts are what a handle is put together of; a nil one is left out.
type parts struct {
	file   api.File
	writer api.Writer
	cutter api.Cutter
	holer  api.Holer
	syncer api.Syncer
}

// can tells which parts are there.
func (p parts) can() uint8 {
	can := uint8(0)
	if p.writer != nil {
		can |= api.CanWrite
	}
	if p.cutter != nil {
		can |= api.CanCut
	}
	if p.holer != nil {
		can |= api.CanHoles
	}
	if p.syncer != nil {
		can |= api.CanSync
	}
	return can
}

// only leaves out the parts whose bit is not set.
func (p parts) only(can uint8) parts {
	if can&api.CanWrite == 0 {
		p.writer = nil
	}
	if can&api.CanCut == 0 {
		p.cutter = nil
	}
	if can&api.CanHoles == 0 {
		p.holer = nil
	}
	if can&api.CanSync == 0 {
		p.syncer = nil
	}
	return p
}

// together makes the one of the sixteen files that has the methods of the parts that are there.
func (p parts) together() api.File {
	switch p.can() {
	case 0:
		return &file{p.file}
	case api.CanWrite:
		return &fileW{p.file, p.writer}
	case api.CanCut:
		return &fileC{p.file, p.cutter}
	case api.CanWrite | api.CanCut:
		return &fileWC{p.file, p.writer, p.cutter}
	case api.CanHoles:
		return &fileH{p.file, p.holer}
	case api.CanWrite | api.CanHoles:
		return &fileWH{p.file, p.writer, p.holer}
	case api.CanCut | api.CanHoles:
		return &fileCH{p.file, p.cutter, p.holer}
	case api.CanWrite | api.CanCut | api.CanHoles:
		return &fileWCH{p.file, p.writer, p.cutter, p.holer}
	case api.CanSync:
		return &fileS{p.file, p.syncer}
	case api.CanWrite | api.CanSync:
		return &fileWS{p.file, p.writer, p.syncer}
	case api.CanCut | api.CanSync:
		return &fileCS{p.file, p.cutter, p.syncer}
	case api.CanWrite | api.CanCut | api.CanSync:
		return &fileWCS{p.file, p.writer, p.cutter, p.syncer}
	case api.CanHoles | api.CanSync:
		return &fileHS{p.file, p.holer, p.syncer}
	case api.CanWrite | api.CanHoles | api.CanSync:
		return &fileWHS{p.file, p.writer, p.holer, p.syncer}
	case api.CanCut | api.CanHoles | api.CanSync:
		return &fileCHS{p.file, p.cutter, p.holer, p.syncer}
	default:
		return &fileWCHS{p.file, p.writer, p.cutter, p.holer, p.syncer}
	}
}
