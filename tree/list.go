package tree

import (
	"bytes"
	"slices"
	"strings"

	"sump/api"
)

// top is Root's Path, and what stands between a directory's Path and a name in it.
const top = "/"

// What Size counts: a Size of one item, and of all.
const (
	mostOne = 1 << 40
	mostAll = 1 << 60
)

// Same: P23.2.
func Same(a, b []api.Item) bool { return slices.EqualFunc(a, b, same) }

func same(x, y api.Item) bool { return x.Ino == y.Ino && alike(x, y) }

// alike holds all but the numbers of nodes against each other.
func alike(x, y api.Item) bool {
	return x.Path == y.Path && x.Kind == y.Kind && x.Size == y.Size && bytes.Equal(x.Data, y.Data)
}

// Alike: P23.2. Each list's numbers are counted in the order in which they come: alike all the way, if two are one in a just where they are one in b.
func Alike(a, b []api.Item) bool {
	countA, countB := counter(), counter()
	return slices.EqualFunc(a, b, func(x, y api.Item) bool {
		return countA(x.Ino) == countB(y.Ino) && alike(x, y)
	})
}

// counter hands out what tells how many other numbers came ahead of one, when it came first.
func counter() func(ino int) int {
	counts := map[int]int{}
	return func(ino int) int {
		count, there := counts[ino]
		if !there {
			count = len(counts)
			counts[ino] = count
		}
		return count
	}
}

// Find: P23.2. What is told is a copy, since an answer shares no memory with an argument.
func Find(l []api.Item, path string) (api.Item, bool) {
	at := slices.IndexFunc(l, func(x api.Item) bool { return x.Path == path })
	if at < 0 {
		return api.Item{}, false
	}
	x := l[at]
	x.Path, x.Data = strings.Clone(x.Path), bytes.Clone(x.Data)
	return x, true
}

// Size: P23.2. The sum is held down at each item, since all together could wrap round.
func Size(l []api.Item) int {
	sum := 0
	for _, x := range l {
		if x.Size >= 0 && x.Size <= mostOne {
			sum = min(sum+x.Size, mostAll)
		}
	}
	return sum
}

// Right: P23.2. Kinds has the Paths that are ahead of an item.
func Right(l []api.Item) bool {
	kinds := map[string]int{}
	for i, x := range l {
		if _, twice := kinds[x.Path]; twice || !stands(i, x, kinds) || !isWhole(x) {
			return false
		}
		kinds[x.Path] = x.Kind
	}
	return len(l) > 0
}

// stands tells whether an item is where it may be: the first one is Root, and each other one in a directory that is ahead of it. A Path without `/` is in none.
func stands(i int, x api.Item, kinds map[string]int) bool {
	at := strings.LastIndex(x.Path, top)
	switch {
	case i == 0:
		return x.Path == top && x.Kind == api.Dir
	case at < 0:
		return false
	case at == 0:
		return kinds[top] == api.Dir
	}
	return kinds[x.Path[:at]] == api.Dir
}

func isWhole(x api.Item) bool { return x.Kind != api.File || len(x.Data) == x.Size }
