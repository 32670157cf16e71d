package tree

import (
	"bytes"
	"math/big"
	"slices"
	"strings"
	"testing"

	"sump/api"
	"sump/pmem"
	"sump/state"
	"sump/store"
	"sump/view"
)

// The numbers of the document, written out, so that no constant of the program is held against itself.
const (
	greatest = int(^uint(0) >> 1)
	least    = -greatest - 1
	file     = 1
	dir      = 2
)

// draw is a row of numbers that is the same each time.
func draw(seed uint64) func(below int) int {
	x := seed*2862933555777941757 + 88172645463325252
	return func(below int) int {
		x ^= x << 13
		x ^= x >> 7
		x ^= x << 17
		return int(x >> 20 % uint64(below))
	}
}

func makes(in int, s string, ino, kind int) api.Effect {
	return api.Effect{Kind: 1, Dir: in, Name: s, Ino: ino, Page: kind}
}

func links(in int, s string, ino int) api.Effect {
	return api.Effect{Kind: 2, Dir: in, Name: s, Ino: ino}
}

func unlinks(in int, s string, ino int) api.Effect {
	return api.Effect{Kind: 3, Dir: in, Name: s, Ino: ino}
}

func rmdirs(in int, s string, ino int) api.Effect {
	return api.Effect{Kind: 4, Dir: in, Name: s, Ino: ino}
}

func renames(in int, s string, to int, other string, ino int) api.Effect {
	return api.Effect{Kind: 5, Dir: in, Name: s, To: to, Other: other, Ino: ino}
}

func truncs(ino, size int) api.Effect { return api.Effect{Kind: 6, Ino: ino, Size: size} }

// noise is bytes none of which is 0, so that each that must be is seen.
func noise(seed, many int) []byte {
	next := draw(uint64(seed))
	b := make([]byte, many)
	for i := range b {
		b[i] = byte(1 + next(255))
	}
	return b
}

// writes has bytes that are unlike those of other writes, behind the size, too.
func writes(ino, page, size int) api.Effect {
	return api.Effect{Kind: 7, Ino: ino, Page: page, Size: size, Data: noise(ino*100000+page*20000+size, 256)}
}

func drops(ino int) api.Effect { return api.Effect{Kind: 8, Ino: ino} }

// deviceOf has a new tree, and so many pages.
func deviceOf(t *testing.T, pages int) *pmem.Device {
	t.Helper()
	d := pmem.New(32 * pages)
	if err := store.Mkfs(d); err != 0 {
		t.Fatal(err)
	}
	return d
}

func mounted(t *testing.T, d *pmem.Device) *store.Store {
	t.Helper()
	st, err := store.Mount(d)
	if err != 0 {
		t.Fatal(err)
	}
	return st
}

// fresh is a view of a new tree on a device of so many pages, and the device.
func fresh(t *testing.T, pages int) (*view.View, *pmem.Device) {
	t.Helper()
	d := deviceOf(t, pages)
	return view.New(mounted(t, d), 256), d
}

func adds(t *testing.T, v *view.View, l ...api.Effect) {
	t.Helper()
	if err := v.Add(l); err != 0 {
		t.Fatal(err)
	}
}

func pushes(t *testing.T, v *view.View, many int) {
	t.Helper()
	for i := range many {
		if is, err := v.Push(); !is || err != 0 {
			t.Fatal(i, is, err)
		}
	}
}

// dead has power fail.
func dead(t *testing.T, d *pmem.Device) {
	t.Helper()
	d.Arm(1)
	if d.Fence(); !d.Dead() {
		t.Fatal("power hasn't failed")
	}
}

// sameLists holds lists against each other; an empty Data and none are the same.
func sameLists(a, b []api.Item) bool {
	if len(a) != len(b) {
		return false
	}
	for i, x := range a {
		y := b[i]
		if x.Path != y.Path || x.Ino != y.Ino || x.Kind != y.Kind || x.Size != y.Size || !bytes.Equal(x.Data, y.Data) {
			return false
		}
	}
	return true
}

// clones is a list that shares nothing with l.
func clones(l []api.Item) []api.Item {
	l = slices.Clone(l)
	for i, x := range l {
		l[i].Path, l[i].Data = strings.Clone(x.Path), bytes.Clone(x.Data)
	}
	return l
}

// plain is what the first effects of a new tree come to, by layer 16's words: nodes, and the bytes of each page, under a ref that none had.
type plain struct {
	nodes *state.State
	pages map[int][]byte
	last  int
}

func plainOf(t *testing.T, l []api.Effect) *plain {
	t.Helper()
	p := &plain{nodes: state.New(), pages: map[int][]byte{}}
	for i, e := range l {
		ref := 0
		if e.Kind == 7 {
			p.last++
			ref = p.last
			p.pages[ref] = e.Data
		}
		if _, err := p.nodes.Apply(e, ref); err != 0 {
			t.Fatal("effect", i, err)
		}
	}
	return p
}

// way is an item, and the names that one comes to it by.
type way struct {
	names []string
	item  api.Item
}

// items goes through the tree breadth first, and puts what it found in order by the names: what one comes to by more names is behind what has the first of them.
func (p *plain) items() []api.Item {
	ways := []way{{nil, api.Item{Path: "/", Ino: 1, Kind: dir}}}
	for i := 0; i < len(ways); i++ {
		n, _ := p.nodes.Get(ways[i].item.Ino)
		for _, e := range n.Names {
			names := append(slices.Clone(ways[i].names), e.Name)
			path := ""
			for _, s := range names {
				path += "/" + s
			}
			ways = append(ways, way{names, p.item(path, e.Ino)})
		}
	}
	slices.SortFunc(ways, func(a, b way) int { return slices.Compare(a.names, b.names) })
	var l []api.Item
	for _, w := range ways {
		l = append(l, w.item)
	}
	return l
}

func (p *plain) item(path string, ino int) api.Item {
	n, _ := p.nodes.Get(ino)
	var data []byte
	for _, ref := range n.Pages {
		page := make([]byte, 256)
		copy(page, p.pages[ref])
		data = append(data, page...)
	}
	return api.Item{Path: path, Ino: ino, Kind: n.Kind, Size: n.Size, Data: data[:n.Size]}
}

// itemsOf is what effects come to.
func itemsOf(t *testing.T, l []api.Effect) []api.Item {
	t.Helper()
	return plainOf(t, l).items()
}

// plainAlike goes by the chapter's words, any two items against each other.
func plainAlike(a, b []api.Item) bool {
	if len(a) != len(b) {
		return false
	}
	for i := range a {
		for k := range a {
			if (a[i].Ino == a[k].Ino) != (b[i].Ino == b[k].Ino) {
				return false
			}
		}
	}
	a, b = slices.Clone(a), slices.Clone(b)
	for i := range a {
		a[i].Ino, b[i].Ino = 0, 0
	}
	return sameLists(a, b)
}

// plainSize has numbers that never wrap round.
func plainSize(l []api.Item) int {
	sum := new(big.Int)
	for _, x := range l {
		if x.Size >= 0 && x.Size <= 1099511627776 {
			sum.Add(sum, big.NewInt(int64(x.Size)))
		}
	}
	most := big.NewInt(1152921504606846976)
	if sum.Cmp(most) > 0 {
		sum = most
	}
	return int(sum.Int64())
}

// plainRight goes by the chapter's words, each item against all ahead of it.
func plainRight(l []api.Item) bool {
	if len(l) == 0 || l[0].Path != "/" || l[0].Kind != 2 {
		return false
	}
	for i, x := range l {
		if x.Kind == 1 && len(x.Data) != x.Size {
			return false
		}
		if i == 0 {
			continue
		}
		last := -1
		for k := range len(x.Path) {
			if x.Path[k] == '/' {
				last = k
			}
		}
		if last < 0 {
			return false
		}
		up, found := x.Path[:last], false
		if up == "" {
			up = "/"
		}
		for _, y := range l[:i] {
			if y.Path == x.Path {
				return false
			}
			found = found || y.Path == up && y.Kind == 2
		}
		if !found {
			return false
		}
	}
	return true
}
