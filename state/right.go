package state

import (
	"slices"

	"sump/api"
	"sump/dirs"
	"sump/inode"
)

// Of: P16.4.
func Of(l []api.Node, last int) (*State, bool) {
	s := &State{nodes: map[int]api.Node{}, last: last}
	for i, n := range l {
		if i > 0 && n.Ino <= l[i-1].Ino {
			return nil, false
		}
		s.nodes[n.Ino] = inode.Copy(n)
	}
	if !s.Right() {
		return nil, false
	}
	return s, true
}

// Right: P16.4. Each part goes by what those ahead of it have asked for.
func (s *State) Right() bool {
	return s.made() && s.rightNodes() && s.rightNames() && s.rightWays() && s.rightRefs()
}

func (s *State) rightNodes() bool {
	for ino, n := range s.inOrder() {
		if !inode.Right(n) || !dirs.Right(n.Names) || ino > s.last {
			return false
		}
	}
	return s.is(api.Root, api.Dir)
}

// rightNames asks each node but Root for as many names as it has links: a directory has one link, always.
func (s *State) rightNames() bool {
	many := map[int]int{}
	for dir, n := range s.inOrder() {
		for _, e := range n.Names {
			if !s.mayStand(dir, e.Ino) {
				return false
			}
			many[e.Ino]++
		}
	}
	for ino, n := range s.inOrder() {
		if ino != api.Root && many[ino] != n.Links {
			return false
		}
	}
	return true
}

// mayStand tells whether dir may have a name of that node: any file, but of directories only those that dir is the Up of.
func (s *State) mayStand(dir, ino int) bool {
	return s.is(ino, api.File) || s.is(ino, api.Dir) && ino != api.Root && s.nodes[ino].Up == dir
}

// rightWays goes from Root down, name by name, to all directories that are Within it. Since each but Root has one name, in its Up, and Root none, it comes to none twice, and the way down is the way up turned round.
func (s *State) rightWays() bool {
	found := []int{api.Root}
	for i := 0; i < len(found); i++ {
		for _, e := range s.nodes[found[i]].Names {
			if s.is(e.Ino, api.Dir) {
				found = append(found, e.Ino)
			}
		}
	}
	return len(found) == s.directories()
}

func (s *State) directories() int {
	many := 0
	for _, n := range s.inOrder() {
		if n.Kind == api.Dir {
			many++
		}
	}
	return many
}

func (s *State) rightRefs() bool {
	refs := s.Refs()
	slices.Sort(refs)
	for i, ref := range refs {
		if i > 0 && ref == refs[i-1] {
			return false
		}
	}
	return true
}
