package state

import (
	"sump/api"
	"sump/dirs"
	"sump/effect"
	"sump/inode"
)

// Apply: P16.2.
func (s *State) Apply(e api.Effect, ref int) ([]int, api.Errno) {
	if !s.made() {
		return nil, api.ErrNil
	}
	if err := effect.Check(e); err != api.OK {
		return nil, err
	}
	refs, done := s.do(e, ref)
	if !done {
		return nil, api.ErrState
	}
	return refs, api.OK
}

// do tells the refs that go, and true; false, with nothing changed, if e can't happen. Whatever it goes by asks for all that must be so ahead of its first change.
func (s *State) do(e api.Effect, ref int) ([]int, bool) {
	switch e.Kind {
	case api.EfMake:
		return nil, s.create(e)
	case api.EfLink:
		return nil, s.link(e)
	case api.EfUnlink:
		return nil, s.remove(e, api.File)
	case api.EfRmdir:
		return nil, s.remove(e, api.Dir)
	case api.EfRename:
		return nil, s.rename(e)
	case api.EfTrunc:
		return s.trunc(e)
	case api.EfWrite:
		return s.write(e, ref)
	case api.EfDrop:
		return s.drop(e)
	}
	return nil, false
}

// create holds the number against Last from below, since one more than the greatest Last would wrap round.
func (s *State) create(e api.Effect) bool {
	if !s.free(e.Dir, e.Name) || e.Ino-1 != s.last {
		return false
	}
	s.nodes[e.Ino] = inode.New(e.Ino, e.Page, e.Dir)
	s.last = e.Ino
	s.enter(e.Dir, e.Name, e.Ino)
	return true
}

func (s *State) link(e api.Effect) bool {
	n := s.nodes[e.Ino]
	if !s.free(e.Dir, e.Name) || n.Kind != api.File || n.Links < 1 || n.Links >= api.MaxLinks {
		return false
	}
	n.Links++
	s.nodes[e.Ino] = n
	s.enter(e.Dir, e.Name, e.Ino)
	return true
}

func (s *State) remove(e api.Effect, kind int) bool {
	if !s.has(e.Dir, e.Name, e.Ino) || !s.loose(e.Ino, kind) {
		return false
	}
	s.forget(e.Dir, e.Name, e.Ino)
	return true
}

func (s *State) rename(e api.Effect) bool {
	kind := s.nodes[e.Ino].Kind
	if !s.has(e.Dir, e.Name, e.Ino) || !s.is(e.To, api.Dir) || kind == api.Dir && s.Within(e.To, e.Ino) {
		return false
	}
	if stood, there := dirs.Find(s.nodes[e.To].Names, e.Other); there {
		if stood == e.Ino || !s.loose(stood, kind) {
			return false
		}
		s.forget(e.To, e.Other, stood)
	}
	s.leave(e.Dir, e.Name)
	s.enter(e.To, e.Other, e.Ino)
	if kind == api.Dir {
		s.moveTo(e.Ino, e.To)
	}
	return true
}

func (s *State) trunc(e api.Effect) ([]int, bool) {
	if !s.is(e.Ino, api.File) {
		return nil, false
	}
	n, cut := inode.Resize(s.nodes[e.Ino], e.Size)
	s.nodes[e.Ino] = n
	return cut, true
}

func (s *State) write(e api.Effect, ref int) ([]int, bool) {
	n := s.nodes[e.Ino]
	if n.Kind != api.File || e.Size < n.Size {
		return nil, false
	}
	n, stood := inode.Put(n, e.Page, ref, e.Size)
	s.nodes[e.Ino] = n
	if stood == 0 {
		return nil, true
	}
	return []int{stood}, true
}

func (s *State) drop(e api.Effect) ([]int, bool) {
	n := s.nodes[e.Ino]
	if n.Kind != api.File || n.Links != 0 {
		return nil, false
	}
	delete(s.nodes, e.Ino)
	return inode.Refs(n), true
}

// free tells whether dir is a directory without that name.
func (s *State) free(dir int, text string) bool {
	_, there := dirs.Find(s.nodes[dir].Names, text)
	return s.is(dir, api.Dir) && !there
}

// has tells whether that name in dir is that node. (What is no directory has no names.)
func (s *State) has(dir int, text string, ino int) bool {
	found, there := dirs.Find(s.nodes[dir].Names, text)
	return there && found == ino
}

// loose tells whether a node is of that kind, and a name of it may go: it isn't Root, and nothing stands in it.
func (s *State) loose(ino, kind int) bool {
	return s.is(ino, kind) && ino != api.Root && len(s.nodes[ino].Names) == 0
}

// forget does what an EfUnlink of a file, an EfRmdir of a directory does.
func (s *State) forget(dir int, text string, ino int) {
	s.leave(dir, text)
	n := s.nodes[ino]
	if n.Kind == api.Dir {
		delete(s.nodes, ino)
		return
	}
	n.Links--
	s.nodes[ino] = n
}

// enter gives dir that name, and leave takes it: the lists that dirs tells are new ones, as the map asks for.
func (s *State) enter(dir int, text string, ino int) {
	n := s.nodes[dir]
	n.Names, _ = dirs.Put(n.Names, text, ino)
	s.nodes[dir] = n
}

func (s *State) leave(dir int, text string) {
	n := s.nodes[dir]
	n.Names, _ = dirs.Drop(n.Names, text)
	s.nodes[dir] = n
}

func (s *State) moveTo(dir, up int) {
	n := s.nodes[dir]
	n.Up = up
	s.nodes[dir] = n
}
