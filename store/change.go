package store

import (
	"mantle/api"
	"mantle/path"
)

// clean is what all calls ask of a path that they are handed, ahead of all else.
func (s *Store) clean(p string) (string, api.Errno) {
	if s == nil {
		return "", api.ErrNil
	}
	return path.Clean(p)
}

// file is the file that stands at a path.
func (s *Store) file(p string) (*file, api.Errno) {
	p, e := s.clean(p)
	if e != api.OK {
		return nil, e
	}
	switch n := s.root.at(p).(type) {
	case nil:
		return nil, api.ErrNone
	case *file:
		return n, api.OK
	default:
		return nil, api.ErrDir
	}
}

// fill gives a file other bytes.
func (s *Store) fill(f *file, data []byte) api.Errno {
	was := f.data
	return s.change(func() { f.data = data }, func() { f.data = was })
}

// change does something to the tree, and tries whether there is room for it then. Where there is none, the writing down gives up by panic, and all is put back here.
func (s *Store) change(do, undo func()) (e api.Errno) {
	defer func() {
		if recover() != nil {
			undo()
			e = api.ErrSpace
		}
	}()
	do()
	written(&s.root, s.sides.room())
	s.changed = true
	return api.OK
}
