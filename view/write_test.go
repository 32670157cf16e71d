package view

import (
	"bytes"
	"testing"

	"sump/api"
)

// P22.2

// holes are which pages of a file are none.
func holes() map[string]func(i int) bool {
	return map[string]func(i int) bool{
		"no holes":        func(int) bool { return false },
		"all holes":       func(int) bool { return true },
		"even ones holes": func(i int) bool { return i%2 == 0 },
		"odd ones holes":  func(i int) bool { return i%2 == 1 },
	}
}

func sizes() []int {
	return []int{0, 1, 2, 255, 256, 257, 300, 511, 512, 513, 767, 768, 1000, 16127, 16128, 16129, 16383, 16384}
}

// sized is file 2 of that size, with noise behind it, half of it pages of data, half of it pages of the cache.
func sized(t *testing.T, size int, hole func(i int) bool) (*View, *plain) {
	t.Helper()
	v := fresh(t, 100, 256)
	l := []api.Effect{makes(1, "f", 2, file), truncs(2, size)}
	for i := range (size + 255) / 256 {
		if !hole(i) {
			l = append(l, writes(2, i, size))
		}
	}
	p := plainOf(t, v.Store())
	p.do(t, l...)
	if err := v.Add(l); err != 0 {
		t.Fatal(err)
	}
	pushes(t, v, len(l)/2+1)
	return v, p
}

// written is what a list of bytes is with b at off.
func written(l []byte, off int, b []byte) []byte {
	if len(b) == 0 {
		return l
	}
	next := make([]byte, max(len(l), off+len(b)))
	copy(next, l)
	copy(next[off:], b)
	return next
}

func TestWriteOfAnySize(t *testing.T) {
	offs := append(sizes(), least, -1, 1024, 16385, greatest-5, greatest)
	for name, hole := range holes() {
		for _, size := range sizes() {
			v, p := sized(t, size, hole)
			was := lookAt(v)
			for _, off := range offs {
				for _, many := range []int{0, 1, 2, 255, 256, 257, 700, 16384, 16385} {
					b := noise(off+many, many)
					l, err := v.Write(2, off, b)
					want, wantErr := p.write(2, off, b)
					if err != wantErr || !sameEffects(l, want) {
						t.Fatal(name, size, off, many, l, err, "must be", want, wantErr)
					}
					if err != 0 {
						continue
					}
					q := p.copy()
					q.do(t, l...)
					if got := q.whole(2); !bytes.Equal(got, written(p.whole(2), off, b)) {
						t.Fatal(name, size, off, many, got)
					}
				}
			}
			expectLook(t, v, was)
		}
	}
}

func TestTruncOfAnySize(t *testing.T) {
	for name, hole := range holes() {
		for _, size := range sizes() {
			v, p := sized(t, size, hole)
			was := lookAt(v)
			for _, to := range append(sizes(), least, -1, 1024, 16385, greatest) {
				l, err := v.Trunc(2, to)
				want, wantErr := p.trunc(2, to)
				if err != wantErr || !sameEffects(l, want) {
					t.Fatal(name, size, to, l, err, "must be", want, wantErr)
				}
				if err != 0 {
					continue
				}
				q := p.copy()
				q.do(t, l...)
				next := make([]byte, to)
				copy(next, p.whole(2))
				if got := q.whole(2); !bytes.Equal(got, next) {
					t.Fatal(name, size, to, got)
				}
			}
			expectLook(t, v, was)
		}
	}
}

// The example, and others written out.
func TestWriteWrittenOut(t *testing.T) {
	v := fresh(t, 64, 8)
	adds(t, v, makes(1, "f", 2, file), makes(1, "g", 3, file), writes(3, 0, 10), makes(1, "h", 4, file), writes(4, 1, 300), truncs(4, 512), makes(1, "i", 5, file), truncs(5, 10))
	begun := writes(3, 0, 10).Data
	clear(begun[10:])
	for i, c := range []struct {
		ino, off, many int
		pages, sizes   []int
	}{
		{2, 300, 1, []int{1}, []int{301}},
		{2, 0, 256, []int{0}, []int{256}},
		{2, 0, 257, []int{0, 1}, []int{256, 257}},
		{2, 255, 258, []int{0, 1, 2}, []int{256, 512, 513}},
		{2, 16383, 1, []int{63}, []int{16384}},
		{3, 10, 1, []int{0}, []int{11}},
		{3, 11, 1, []int{0}, []int{12}},
		{3, 0, 5, []int{0}, []int{10}},
		{3, 5, 5, []int{0}, []int{10}},
		{3, 255, 1, []int{0}, []int{256}},
		{3, 255, 2, []int{0, 1}, []int{256, 257}},
		{3, 256, 1, []int{0, 1}, []int{10, 257}},
		{3, 900, 200, []int{0, 3, 4}, []int{10, 1024, 1100}},
		{4, 0, 400, []int{0, 1}, []int{512, 512}},
		{4, 600, 1, []int{2}, []int{601}},
		{5, 900, 1, []int{3}, []int{901}},
	} {
		b := noise(i, c.many)
		l, err := v.Write(c.ino, c.off, b)
		if err != 0 || len(l) != len(c.pages) {
			t.Fatal(i, l, err)
		}
		for j, e := range l {
			if e.Kind != 7 || e.Ino != c.ino || e.Page != c.pages[j] || e.Size != c.sizes[j] || len(e.Data) != 256 || e.Dir != 0 || e.To != 0 || e.Name != "" || e.Other != "" {
				t.Error(i, j, e)
			}
		}
		if c.ino == 3 && c.off > 255 && !bytes.Equal(l[0].Data, begun) {
			t.Error(i, l[0].Data)
		}
	}
}

func TestTruncWrittenOut(t *testing.T) {
	v := fresh(t, 64, 8)
	adds(t, v, makes(1, "f", 2, file), writes(2, 1, 300), makes(1, "g", 3, file), truncs(3, 300), makes(1, "h", 4, file), writes(4, 0, 256))
	begun := writes(2, 1, 300).Data
	clear(begun[44:])
	for i, c := range []struct {
		ino, size, kind int
	}{
		{2, 0, 6}, {2, 299, 6}, {2, 300, 0}, {2, 301, 7}, {2, 512, 7}, {2, 513, 7}, {2, 16384, 7}, {2, 256, 6},
		{3, 0, 6}, {3, 299, 6}, {3, 300, 0}, {3, 301, 6}, {3, 16384, 6},
		{4, 0, 6}, {4, 255, 6}, {4, 256, 0}, {4, 257, 6}, {4, 16384, 6},
	} {
		l, err := v.Trunc(c.ino, c.size)
		want := []api.Effect{truncs(c.ino, c.size)}
		if c.kind == 7 {
			want = []api.Effect{{Kind: 7, Ino: 2, Page: 1, Size: c.size, Data: begun}}
		}
		if c.kind == 0 {
			want = nil
		}
		if err != 0 || !sameEffects(l, want) {
			t.Error(i, l, err)
		}
	}
}

func TestWriteAndTruncOfWhatIsNoFile(t *testing.T) {
	for name, v := range scenes(t) {
		for ino, want := range map[int]api.Errno{least: errNone, -1: errNone, 0: errNone, 1: errIsDir, 2: errIsDir, 5: errIsDir, 7: errNone, 1 << 20: errNone, greatest: errNone} {
			for _, at := range numbersAround() {
				for _, b := range [][]byte{nil, {}, {1}, make([]byte, 20000)} {
					if l, err := v.Write(ino, at, b); l != nil || err != want {
						t.Error(name, ino, at, len(b), l, err)
					}
				}
				if l, err := v.Trunc(ino, at); l != nil || err != want {
					t.Error(name, ino, at, l, err)
				}
			}
		}
	}
}

// The first error that applies is told: what is below 0 ahead of what is too much, and that ahead of there being nothing to write.
func TestWritesErrorsInOrder(t *testing.T) {
	v := fresh(t, 64, 8)
	adds(t, v, makes(1, "f", 2, file))
	for i, c := range []struct {
		off, many int
		want      api.Errno
	}{
		{-1, 0, errArg}, {-1, 16386, errArg}, {least, 0, errArg}, {least, 16385, errArg},
		{16385, 0, errBig}, {greatest, 0, errBig}, {greatest, 1, errBig}, {16384, 1, errBig}, {0, 16385, errBig}, {16383, 2, errBig}, {1, 16384, errBig},
		{16384, 0, 0}, {0, 0, 0}, {16383, 1, 0}, {0, 16384, 0},
	} {
		l, err := v.Write(2, c.off, make([]byte, c.many))
		if err != c.want || (len(l) > 0) != (err == 0 && c.many > 0) {
			t.Error(i, l, err)
		}
	}
}

// A page that can't be read: place 0's error comes ahead of all others, that of another one behind them; none is told of a page that has no part in it.
func TestWriteOnADeadDevice(t *testing.T) {
	v := halfDark(t)
	for i, c := range []struct {
		ino, off, many int
		want           api.Errno
	}{
		{3, -1, 1, errIO}, {3, 0, 0, errIO}, {3, 20000, 1, errIO}, {3, 600, 1, errIO},
		{2, -1, 1, errArg}, {2, 20000, 1, errBig}, {2, 300, 0, 0},
		{2, 0, 256, 0}, {2, 0, 257, errIO}, {2, 300, 1, errIO}, {2, 256, 256, errIO}, {2, 600, 10, 0}, {2, 512, 256, 0}, {2, 512, 300, errIO}, {2, 1000, 1, errIO}, {2, 1024, 1, errIO}, {2, 9000, 1, errIO},
	} {
		l, err := v.Write(c.ino, c.off, noise(i, c.many))
		if err != c.want || err != 0 && l != nil {
			t.Error(i, l, err)
		}
	}
	for i, c := range []struct {
		ino, size int
		want      api.Errno
	}{
		{3, -1, errIO}, {3, 300, errIO}, {3, 16385, errIO}, {3, 0, errIO}, {2, -1, errBig}, {2, 16385, errBig}, {2, 1000, 0}, {2, 999, 0}, {2, 0, 0}, {2, 1001, errIO}, {2, 16384, errIO},
	} {
		l, err := v.Trunc(c.ino, c.size)
		if err != c.want || err != 0 && l != nil {
			t.Error(i, l, err)
		}
	}
}

// What is behind the end is 0, whenever it is seen: files go through writes and cuts as lists of bytes do.
func TestFilesAreAsListsOfBytes(t *testing.T) {
	for seed := range uint64(12) {
		next := draw(seed)
		v := fresh(t, 64, 20)
		adds(t, v, makes(1, "f", 2, file), makes(1, "g", 3, file))
		want := [2][]byte{}
		done := 0
		for range 1500 {
			k := next(2)
			at, many := next(2200), 1+next(600)
			l, err := v.Write(2+k, at, noise(at+many, many))
			behind := written(want[k], at, noise(at+many, many))
			if next(3) == 0 {
				l, err = v.Trunc(2+k, at)
				behind = make([]byte, at)
				copy(behind, want[k])
			}
			if err != 0 {
				t.Fatal(seed, err)
			}
			for v.Add(l) == errBusy {
				pushes(t, v, 1)
			}
			done++
			want[k] = behind
			for k, b := range want {
				got, err := v.Bytes(2+k, 0, 16384)
				if err != 0 || !bytes.Equal(got, b) {
					t.Fatal(seed, k, got, err, b)
				}
			}
			if next(3) == 0 {
				v.Push()
			}
		}
		if done < 1500 || v.Gone() < 300 {
			t.Error(seed, done, v.Gone())
		}
	}
}
