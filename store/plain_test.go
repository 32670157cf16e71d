package store

import (
	"sump/api"
	"sump/bank"
	"sump/effect"
	"sump/geom"
	"sump/image"
	"sump/pmem"
	"sump/record"
	"sump/room"
	"sump/state"
	"sump/words"
)

// The numbers of the document, written out, so that no constant of the program is held against itself.
const (
	errIO      api.Errno = 5
	errSpace   api.Errno = 28
	errCorrupt api.Errno = 74
	errArg     api.Errno = 90
	errNil     api.Errno = 91
	errForm    api.Errno = 92
	errState   api.Errno = 93
	greatest             = int(^uint(0) >> 1)
	least                = -greatest - 1
	file                 = 1
	dir                  = 2
)

// small is the geom of 64 pages: banks at words 32 and 288, each with a picture of 127 words 2 behind that, and a log of 127 behind it; page p of data is at 512 + 32 p.
var small = api.Geom{Pages: 64, Bank: 8, Image: 127, Log: 127, Data: 47}

// draw is a row of numbers that is the same each time.
func draw(seed uint64) func(below int) int {
	x := seed*2862933555777941757 + 88172645463325252
	return func(below int) int {
		x ^= x << 13
		x ^= x >> 7
		x ^= x << 17
		return int(x >> 20 % uint64(below))
	}
}

func makes(in int, s string, ino, kind int) api.Effect {
	return api.Effect{Kind: 1, Dir: in, Name: s, Ino: ino, Page: kind}
}

func links(in int, s string, ino int) api.Effect {
	return api.Effect{Kind: 2, Dir: in, Name: s, Ino: ino}
}

func unlinks(in int, s string, ino int) api.Effect {
	return api.Effect{Kind: 3, Dir: in, Name: s, Ino: ino}
}

func rmdirs(in int, s string, ino int) api.Effect {
	return api.Effect{Kind: 4, Dir: in, Name: s, Ino: ino}
}

func renames(in int, s string, to int, other string, ino int) api.Effect {
	return api.Effect{Kind: 5, Dir: in, Name: s, To: to, Other: other, Ino: ino}
}

func truncs(ino, size int) api.Effect { return api.Effect{Kind: 6, Ino: ino, Size: size} }

// writes has bytes that are unlike those of other writes.
func writes(ino, page, size int) api.Effect {
	next := draw(uint64(ino*100000 + page*20000 + size))
	b := make([]byte, 256)
	for i := range b {
		b[i] = byte(next(256))
	}
	return api.Effect{Kind: 7, Ino: ino, Page: page, Size: size, Data: b}
}

func drops(ino int) api.Effect { return api.Effect{Kind: 8, Ino: ino} }

// plain is a store by the chapter's words, step by step, over the layers below.
type plain struct {
	d        *pmem.Device
	g        api.Geom
	tree     *state.State
	epoch, k int
	used     map[int]bool
}

func plainMkfs(d *pmem.Device) api.Errno {
	g, is := geom.Of(d.Words() / 32)
	if !is || d.Words()%32 != 0 {
		return errArg
	}
	if err := bank.Make(d, g, 0, image.Put(state.New())); err != 0 {
		return err
	}
	if err := bank.Switch(d, 1, 0); err != 0 {
		return err
	}
	return bank.Format(d, g)
}

func plainMount(d *pmem.Device) (*plain, api.Errno) {
	g, err := bank.Find(d)
	if err != 0 {
		return nil, err
	}
	epoch, k, err := bank.Root(d)
	if err != 0 {
		return nil, err
	}
	picture, log, err := bank.Read(d, g, k)
	if err != 0 {
		return nil, err
	}
	tree, err := image.Of(picture)
	if err != 0 {
		return nil, err
	}
	effects, refs, err := record.All(log)
	if err != 0 {
		return nil, err
	}
	for i, e := range effects {
		if _, err := tree.Apply(e, refs[i]); err != 0 {
			return nil, errCorrupt
		}
	}
	tree = withoutOrphans(tree)
	p := &plain{d: d, g: g, tree: tree, epoch: epoch, k: k, used: map[int]bool{}}
	for _, ref := range tree.Refs() {
		if ref > g.Data {
			return nil, errCorrupt
		}
		p.used[ref] = true
	}
	if !tree.Right() || !room.Fits(g, tree) {
		return nil, errCorrupt
	}
	return p, 0
}

// withoutOrphans is what a Mount makes of a tree.
func withoutOrphans(s *state.State) *state.State {
	s = s.Copy()
	for _, ino := range s.Orphans() {
		s.Apply(drops(ino), 0)
	}
	return s
}

func (p *plain) leastFree() int {
	for i := 1; i <= p.g.Data; i++ {
		if !p.used[i] {
			return i
		}
	}
	return 0
}

func (p *plain) check() api.Errno {
	if err := bank.Make(p.d, p.g, 1-p.k, image.Put(p.tree)); err != 0 {
		return err
	}
	if err := bank.Switch(p.d, p.epoch+1, 1-p.k); err != 0 {
		return err
	}
	p.epoch, p.k = p.epoch+1, 1-p.k
	return 0
}

func (p *plain) commit(e api.Effect) (int, api.Errno) {
	if err := effect.Check(e); err != 0 {
		return 0, err
	}
	page := 0
	if e.Kind == 7 {
		page = p.leastFree()
	}
	behind := p.tree.Copy()
	gone, err := behind.Apply(e, page)
	if err != 0 {
		return 0, errState
	}
	if !room.Fits(p.g, behind) {
		return 0, errSpace
	}
	epoch, k := p.epoch, p.k
	if err := p.steps(e, page); err != 0 {
		p.epoch, p.k = epoch, k
		return 0, err
	}
	p.tree, p.used[page] = behind, page != 0
	for _, ref := range gone {
		p.used[ref] = false
	}
	return page, 0
}

// steps does what a Commit does to the device.
func (p *plain) steps(e api.Effect, page int) api.Errno {
	if e.Kind == 7 {
		if err := bank.Lay(p.d, pageAt(p.g, page), words.Pack(e.Data)); err != 0 {
			return err
		}
	}
	l, _ := record.Put(e, page)
	free, err := bank.Free(p.d, p.g, p.k)
	if err != 0 {
		return err
	}
	if len(l) > free {
		if err := p.check(); err != 0 {
			return err
		}
	}
	return bank.Append(p.d, p.g, p.k, l)
}

// pageAt is where a page of data stands: behind the first page and two banks.
func pageAt(g api.Geom, page int) int { return 32 * (2*g.Bank + page) }

// seen is all that a store tells, but for the bytes of pages: these are asked for beside it.
type seen struct {
	Geom      api.Geom
	Nodes     []api.Node
	Last      int
	Free, Log int
	Epoch, K  int
}

// nodes are those of a state; an empty list and none are the same.
func nodes(s *state.State) []api.Node {
	var l []api.Node
	for _, n := range s.Nodes() {
		if len(n.Pages) == 0 {
			n.Pages = nil
		}
		if len(n.Names) == 0 {
			n.Names = nil
		}
		l = append(l, n)
	}
	return l
}

func look(s *Store) seen {
	tree := s.State()
	epoch, k := s.Epoch()
	return seen{Geom: s.Geom(), Nodes: nodes(tree), Last: tree.Last(), Free: s.Free(), Log: s.Log(), Epoch: epoch, K: k}
}

func (p *plain) look() seen {
	used := 0
	for _, is := range p.used {
		if is {
			used++
		}
	}
	log, _ := bank.Free(p.d, p.g, p.k)
	return seen{Geom: p.g, Nodes: nodes(p.tree), Last: p.tree.Last(), Free: p.g.Data - used, Log: log, Epoch: p.epoch, K: p.k}
}
