package store

import (
	"reflect"
	"testing"

	"sump/api"
	"sump/bank"
	"sump/geom"
	"sump/image"
	"sump/pmem"
	"sump/record"
	"sump/room"
)

// P19.6

// expectSound asks that a Mount writes nothing and tells what a plain one tells; that is an error, or a tree in which all is as it should be. It tells whether it is a tree.
func expectSound(t *testing.T, d *pmem.Device) bool {
	t.Helper()
	was := d.Copy()
	s, err := Mount(d)
	p, want := plainMount(d)
	if err != want || !alike(d, was) {
		t.Fatalf("Mount: %v, and it must be %v", err, want)
	}
	if err != 0 {
		if s != nil {
			t.Fatal("a store beside an error")
		}
		return false
	}
	expectSeen(t, s, p.look())
	tree, g := s.State(), s.Geom()
	if !tree.Right() || !room.Fits(g, tree) || len(tree.Orphans()) != 0 || s.Free() != g.Data-len(tree.Refs()) || geom.Words(g) != d.Words() {
		t.Fatal("it isn't as it should be:", look(s))
	}
	for _, ref := range tree.Refs() {
		if ref < 1 || ref > g.Data {
			t.Fatal(ref)
		}
	}
	return true
}

// spoiled are words that stand where w stood.
func spoiled(w uint64, next func(int) int) []uint64 {
	var l []uint64
	for _, v := range []uint64{0, 1, w + 1, w - 1, 2 * w, 1<<64 - 1, w ^ 1<<next(64), uint64(next(200))} {
		if v != w {
			l = append(l, v)
		}
	}
	return l
}

// two is a device with a tree in bank 1, behind another one in bank 0, and what its log comes to, record by record.
func two(t *testing.T) (*Store, map[uint64]*Store) {
	t.Helper()
	s := after(t, trees()[:10]...)
	s.Check()
	tails := map[uint64]*Store{0: twin(s)}
	for _, e := range []api.Effect{makes(1, "n", 7, file), writes(7, 1, 500), renames(2, "g", 1, "f2", 5), truncs(4, 10), unlinks(1, "n", 7)} {
		does(t, s, e)
		tails[uint64(127-s.Log())] = twin(s)
	}
	if epoch, k := s.Epoch(); epoch != 2 || k != 1 || s.Log() != 127-12-11-13-11-12 {
		t.Fatal(look(s))
	}
	return s, tails
}

// Each word of a device another one: what the picture and the log have is missed, a tail between two records is told as what stood there then, and all else plays no part.
func TestEachWordAnotherOne(t *testing.T) {
	s, tails := two(t)
	next, want := draw(21), contentOf(s)
	many := image.Need(tails[0].State())
	for i := range 2048 {
		if i >= 600 && next(8) != 0 {
			continue // all these are of pages of data
		}
		w, _ := s.d.Load(i)
		for _, v := range spoiled(w, next) {
			d := s.d.Copy()
			set(d, i, v)
			taken := expectSound(t, d)
			switch at := i - 288; {
			case i < 2, at == 1, at >= 2 && at < 2+many, at >= 129 && at < 129+127-s.Log():
				if taken {
					t.Fatal(i, v, "is taken")
				}
			case i == 2:
				if k := int(v % 2); k == 1 && v <= 2<<40+1 {
					expectSame(t, mounted(t, d), s)
				} else if taken != (v <= 2<<40+1) {
					t.Fatal("root", v, taken)
				}
			case at == 0:
				one := tails[v]
				if taken != (one != nil) {
					t.Fatal("tail", v, taken)
				}
				if taken {
					expectSame(t, mounted(t, d), one)
				}
			case i >= 544:
				if !taken {
					t.Fatal(i, v)
				}
			default:
				if !taken || !reflect.DeepEqual(contentOf(mounted(t, d)), want) {
					t.Fatal(i, v, taken)
				}
			}
		}
	}
}

// Some words at once, and devices of any words behind a head that may be.
func TestManyWordsOtherOnes(t *testing.T) {
	s, _ := two(t)
	next := draw(22)
	for range 3000 {
		d := s.d.Copy()
		for range 1 + next(4) {
			at := []int{0, 32, 288, 290, 417, 512}[next(6)] + next(40)
			w, _ := d.Load(at)
			l := spoiled(w, next)
			set(d, at, l[next(len(l))])
		}
		expectSound(t, d)
	}
	for seed := range uint64(200) {
		words := 2048 + 32*next(40)
		d := noise(seed+50, words)
		set(d, 0, 0x73756d70, uint64(words/32), uint64(next(9)))
		g, _ := geom.Of(words / 32)
		for k := range 2 {
			set(d, 32*(1+k*g.Bank), uint64(next(130)), uint64(next(130)))
		}
		expectSound(t, d)
	}
}

// mended makes words with a sum of their own of others, after a word of them was made another one.
func mended(l []uint64, next func(int) int) []uint64 {
	own := append([]uint64(nil), l[:len(l)-1]...)
	for range next(3) {
		i := next(len(own))
		other := spoiled(own[i], next)
		own[i] = other[next(len(other))]
	}
	sum := uint64(14695981039346656037)
	for _, w := range own {
		sum = (sum ^ w) * 1099511628211
	}
	return append(own, sum)
}

// Pictures and logs whose sums are theirs, but of which nothing else needs to be so.
func TestWordsWithSumsOfTheirOwn(t *testing.T) {
	next := draw(23)
	taken := 0
	for n := range 3000 {
		s := roots(t)
		picture := image.Put(s)
		if next(3) == 0 {
			picture = mended(picture, next)
		}
		var log []uint64
		for range next(8) {
			e, ref := drawnEffect(s, next), 0
			if e.Kind == 7 {
				ref = next(60)
			}
			if _, err := s.Apply(e, ref); err != 0 && next(10) != 0 {
				continue
			}
			l, err := record.Put(e, ref)
			if err != 0 {
				continue
			}
			if next(20) == 0 {
				l = mended(l, next)
			}
			log = append(log, l...)
		}
		d := laid(t, n, n%2, picture)
		if bank.Append(d, small, n%2, log) != 0 {
			continue
		}
		if expectSound(t, d) {
			taken++
		}
	}
	if taken < 300 || taken > 2700 {
		t.Error(taken)
	}
}

// Of any number of words.
func TestMountOfAnyNumberOfWords(t *testing.T) {
	for n := range 2200 {
		expectSound(t, pmem.New(n))
		d := noise(uint64(n), n)
		set(d, 0, 0x73756d70, uint64(n/32))
		expectSound(t, d)
	}
	for _, n := range []int{1 << 20, 1 << 25} {
		d := pmem.New(n)
		set(d, 0, 0x73756d70, uint64(n/32), 1)
		g, _ := geom.Of(n / 32)
		if s, err := Mount(d); s != nil || err != errCorrupt {
			t.Error(n, err)
		}
		set(d, 32*(1+g.Bank), uint64(g.Log), uint64(g.Image))
		if s, err := Mount(d); s != nil || err != errCorrupt {
			t.Error(n, err)
		}
	}
}
