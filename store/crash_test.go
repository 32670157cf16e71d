package store

import (
	"reflect"
	"testing"

	"sump/api"
	"sump/pmem"
)

// P19.4

// keeps are choices of what is kept of so many dirty words: none, all, each of a few alone, all but one, and some that are drawn.
func keeps(many int, next func(int) int) [][]bool {
	all := make([]bool, many)
	for i := range all {
		all[i] = true
	}
	l := [][]bool{nil, all}
	for range min(many, 4) {
		i := next(many)
		one, but := make([]bool, many), make([]bool, many)
		for j := range many {
			one[j], but[j] = j == i, j != i
		}
		l = append(l, one, but)
	}
	for range 3 {
		some := make([]bool, many)
		for i := range some {
			some[i] = next(2) == 0
		}
		l = append(l, some)
	}
	return l
}

// left is what a Mount tells of a device: its error, or the tree with its bytes.
type left struct {
	Err  api.Errno
	Tree content
}

func leftOn(d *pmem.Device) left {
	s, err := Mount(d)
	if err != 0 {
		return left{Err: err}
	}
	return left{Tree: contentOf(s)}
}

// crashes does something with power failing at each of its steps, and asks that a Mount tells what it told ahead of it, or what it tells behind it, whatever is kept. It tells how many steps there are.
func crashes(t *testing.T, what string, d *pmem.Device, next func(int) int, do func(d *pmem.Device) api.Errno) int {
	t.Helper()
	ahead := leftOn(d.Copy())
	whole := d.Copy()
	if err := do(whole); err != 0 {
		t.Fatal(what, err)
	}
	whole.Crash(nil)
	behind := leftOn(whole)
	for n := 1; ; n++ {
		cut := d.Copy()
		cut.Arm(n)
		err := do(cut)
		if err == 0 {
			return n - 1
		}
		if err != errIO {
			t.Fatal(what, n, err)
		}
		for i, keep := range keeps(len(cut.Dirty()), next) {
			one := cut.Copy()
			one.Crash(keep)
			if got := leftOn(one); !reflect.DeepEqual(got, ahead) && !reflect.DeepEqual(got, behind) {
				t.Fatalf("%v: power fails at %v, choice %v: %v; it must be %v or %v", what, n, i, got, ahead, behind)
			}
		}
	}
}

func TestCommitIsWholeOrNotAtAll(t *testing.T) {
	next, kinds := draw(11), map[int]int{}
	for name, s := range scenes(t) {
		for _, e := range someEffects() {
			if _, err := twin(s).Commit(e); err != 0 {
				continue
			}
			kinds[e.Kind]++
			crashes(t, name, s.d, next, func(d *pmem.Device) api.Errno {
				one := twin(s)
				one.d = d
				_, err := one.Commit(e)
				return err
			})
		}
	}
	for kind := 1; kind <= 8; kind++ {
		if kinds[kind] == 0 {
			t.Error("no effect of kind", kind)
		}
	}
}

func TestCheckIsWholeOrNotAtAll(t *testing.T) {
	next := draw(12)
	for name, s := range scenes(t) {
		steps := crashes(t, name, s.d, next, func(d *pmem.Device) api.Errno {
			one := twin(s)
			one.d = d
			return one.Check()
		})
		if words := s.State().Words() + 1; steps < words+3 {
			t.Error(name, steps, words)
		}
	}
}

// On a device on which nothing can be found yet, a Mkfs is whole or not at all.
func TestMkfsIsWholeOrNotAtAll(t *testing.T) {
	next := draw(13)
	for i, d := range []*pmem.Device{pmem.New(2048), pmem.New(32 * 99), noise(14, 2048)} {
		if got := leftOn(d.Copy()); got.Err != errCorrupt {
			t.Fatal(i, got)
		}
		if steps := crashes(t, "mkfs", d, next, Mkfs); steps < 10+2+1+3 {
			t.Error(i, steps)
		}
	}
}

// life goes on with drawn Commits and Checks, till power fails at a step that was drawn; it tells the tree behind all that was done, and that behind what was being done.
func life(t *testing.T, s *Store, next func(int) int) (content, content) {
	t.Helper()
	s.d.Arm(1 + next(2000))
	for {
		was, e := twin(s), drawnEffect(s.State(), next)
		err := api.OK
		if next(20) == 0 {
			err = s.Check()
		} else {
			_, err = s.Commit(e)
		}
		if err == errIO {
			was.d.Arm(0)
			now := contentOf(was)
			was.Commit(e)
			return now, contentOf(was)
		}
	}
}

// Many lives, one behind the other: each begins with what was left.
func TestLives(t *testing.T) {
	for seed := range uint64(8) {
		next := draw(100 + seed)
		d := fresh(t)
		behind := 0
		for n := range 60 {
			s := mounted(t, d)
			ahead, after := life(t, s, next)
			choices := keeps(len(d.Dirty()), next)
			d.Crash(choices[next(len(choices))])
			got := leftOn(d)
			if got.Err != 0 || !reflect.DeepEqual(got.Tree, ahead) && !reflect.DeepEqual(got.Tree, after) {
				t.Fatalf("%v, life %v: %v; it must be %v or %v", seed, n, got, ahead, after)
			}
			if reflect.DeepEqual(got.Tree, after) {
				behind++
			}
		}
		if behind == 0 || behind == 60 {
			t.Error(seed, "all lives end alike", behind)
		}
	}
}

// Lines that are evicted between Commits change nothing: all that a Commit does stays when it is done.
func TestNothingIsDirtyBehindACommit(t *testing.T) {
	s, next := after(t), draw(15)
	for range 500 {
		if next(10) == 0 {
			s.Check()
		} else {
			s.Commit(drawnEffect(s.State(), next))
		}
		if len(s.d.Dirty()) != 0 {
			t.Fatal(s.d.Dirty())
		}
	}
}

// P19.5

func TestMountOnceMore(t *testing.T) {
	for name, s := range scenes(t) {
		d := s.d
		want, first := d.Copy(), look(mounted(t, d))
		for range 4 {
			expectSeen(t, mounted(t, d), first)
			expectSame(t, mounted(t, d), s)
			if !alike(d, want) {
				t.Fatal(name, "something is written")
			}
			d.Crash([]bool{true, false, true})
		}
	}
}

// A Mount behind a Mount that let orphans go goes on from what the first one made of them, whatever was done between.
func TestMountsBetweenCommits(t *testing.T) {
	next := draw(16)
	for range 5 {
		s := mounted(t, fresh(t))
		for range 400 {
			if next(6) == 0 {
				s = mounted(t, s.d)
			}
			s.Commit(drawnEffect(s.State(), next))
			expectSame(t, mounted(t, s.d), s)
		}
	}
}
