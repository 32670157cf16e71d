package store

import (
	"slices"

	"sump/api"
	"sump/bank"
	"sump/geom"
	"sump/image"
	"sump/palloc"
	"sump/pmem"
	"sump/record"
	"sump/room"
	"sump/state"
)

// Mkfs: P19.1. It is a Check of a new tree ahead of all epochs, from which bank 0 and epoch 1 come. The device can be found last of all, so that nothing is found ahead of what must stand there.
func Mkfs(d *pmem.Device) api.Errno {
	s := &Store{d: d, tree: state.New(), epoch: 0, bank: 1}
	return inTurn(s.measure, s.picture, s.turn, s.format)
}

// measure asks first whether anybody made the device, since one that nobody made has no words to be told by.
func (s *Store) measure() api.Errno {
	if _, err := s.d.Load(geom.MagicAt); err == api.ErrNil {
		return err
	}
	g, is := geom.Of(s.d.Words() / api.PageWords)
	if !is || geom.Words(g) != s.d.Words() {
		return api.ErrArg
	}
	s.g = g
	return api.OK
}

func (s *Store) format() api.Errno { return bank.Format(s.d, s.g) }

// mounting is a Mount that goes on: the store that is to be, and what its bank has.
type mounting struct {
	s       *Store
	picture []uint64
	log     []uint64
}

// Mount: P19.1. No step writes, so that it can be done again and again.
func Mount(d *pmem.Device) (*Store, api.Errno) {
	m := &mounting{s: &Store{d: d}}
	err := inTurn(m.find, m.root, m.read, m.open, m.replay, m.dropOrphans, m.judge, m.count)
	if err != api.OK {
		return nil, err
	}
	return m.s, api.OK
}

func (m *mounting) find() (err api.Errno) {
	m.s.g, err = bank.Find(m.s.d)
	return err
}

func (m *mounting) root() (err api.Errno) {
	m.s.epoch, m.s.bank, err = bank.Root(m.s.d)
	return err
}

func (m *mounting) read() (err api.Errno) {
	m.picture, m.log, err = bank.Read(m.s.d, m.s.g, m.s.bank)
	return err
}

func (m *mounting) open() (err api.Errno) {
	m.s.tree, err = image.Of(m.picture)
	return err
}

// replay passes over the refs that go: which pages are used is counted when all is done.
func (m *mounting) replay() api.Errno {
	effects, refs, err := record.All(m.log)
	if err != api.OK {
		return err
	}
	for i, e := range effects {
		if !m.happens(e, refs[i]) {
			return api.ErrCorrupt
		}
	}
	return api.OK
}

// happens does an effect, and tells whether it could be done.
func (m *mounting) happens(e api.Effect, ref int) bool {
	_, err := m.s.tree.Apply(e, ref)
	return err == api.OK
}

// dropOrphans lets go of the files that only those had who had them open when power failed.
func (m *mounting) dropOrphans() api.Errno {
	for _, ino := range m.s.tree.Orphans() {
		if !m.happens(api.Effect{Kind: api.EfDrop, Ino: ino}, 0) {
			return api.ErrCorrupt
		}
	}
	return api.OK
}

// judge looks at the whole once more: refs come from the log as they stand there, and more may stand there than there is room for.
func (m *mounting) judge() api.Errno {
	g, tree := m.s.g, m.s.tree
	above := func(ref int) bool { return ref > g.Data }
	if !tree.Right() || !room.Fits(g, tree) || slices.ContainsFunc(tree.Refs(), above) {
		return api.ErrCorrupt
	}
	return api.OK
}

func (m *mounting) count() api.Errno {
	m.s.pages = palloc.New(m.s.g.Data, m.s.tree.Refs())
	return api.OK
}
