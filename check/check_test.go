package check

import (
	"math"
	"math/big"
	"slices"
	"sync"
	"testing"
)

const (
	startWord  uint64 = 14695981039346656037
	factorWord uint64 = 1099511628211
	topBit     uint64 = 1 << 63
)

// edges are words at the edges of what a word may be, and those that the sums are made with.
var edges = []uint64{
	0, 1, 2, 255, 256, 1<<32 - 1, 1 << 32, 1<<62 + 1, topBit - 1, topBit, topBit + 1,
	math.MaxUint64 - 1, math.MaxUint64, startWord, startWord ^ 1, startWord ^ topBit, factorWord, ^startWord,
}

// draw is a row of words that is the same each time.
func draw(seed uint64) func() uint64 {
	x := seed*2862933555777941757 + 88172645463325252
	return func() uint64 {
		x ^= x << 13
		x ^= x >> 7
		x ^= x << 17
		return x * 2685821657736338717
	}
}

// drawList leans to the edges, so that noughts and the like stand at any place.
func drawList(next func() uint64, n int) []uint64 {
	l := make([]uint64, n)
	for i := range l {
		l[i] = next()
		if l[i]%3 == 0 {
			l[i] = edges[l[i]/3%uint64(len(edges))]
		}
	}
	return l
}

// lists are lists to try: none, one of each edge, rows of one word, the two orders of two words, and drawn ones.
func lists() [][]uint64 {
	all := [][]uint64{nil, {}}
	for _, w := range edges {
		all = append(all, []uint64{w}, []uint64{w, 0}, []uint64{0, w}, slices.Repeat([]uint64{w}, 33))
	}
	next := draw(7)
	for n := range 70 {
		all = append(all, drawList(next, n))
	}
	return append(all, drawList(next, 254), drawList(next, 4097))
}

// plainMore takes the bits one by one and the product in numbers without an end, of which the rest by 2^64 is left.
func plainMore(sum, w uint64) uint64 {
	unlike := new(big.Int)
	for i := range 64 {
		if sum>>i&1 != w>>i&1 {
			unlike.SetBit(unlike, i, 1)
		}
	}
	product := unlike.Mul(unlike, big.NewInt(1099511628211))
	all := new(big.Int).Lsh(big.NewInt(1), 64)
	return product.Mod(product, all).Uint64()
}

func plainSum(l []uint64) uint64 {
	sum := startWord
	for _, w := range l {
		sum = plainMore(sum, w)
	}
	return sum
}

// P7.1

func TestStart(t *testing.T) {
	for range 3 { // whatever was summed in between
		if s := Start(); s != 14695981039346656037 {
			t.Errorf("Start: %d", s)
		}
		Sum([]uint64{1, 2, 3})
		More(Start(), 7)
	}
}

func TestMore(t *testing.T) {
	for _, c := range []struct{ sum, w, want uint64 }{
		{0, 0, 0},
		{0, 1, 1099511628211},
		{1, 0, 1099511628211},
		{1, 1, 0},
		{startWord, 0, 12638153115695167455},
		{startWord, startWord, 0},
		{math.MaxUint64, 0, 18446742974197923405},
		{0, math.MaxUint64, 18446742974197923405},
		{math.MaxUint64, 1, 18446741874686295194},
		{math.MaxUint64, math.MaxUint64, 0},
		{topBit, 0, topBit},
		{topBit, 1, 9223373136366404019},
		{2, topBit, 9223374235878032230},
		{123456789, 987654321, 9630284147102086572},
		{0, factorWord, 956575116354345},
	} {
		if s := More(c.sum, c.w); s != c.want {
			t.Errorf("More(%d, %d) = %d, want %d", c.sum, c.w, s, c.want)
		}
	}
}

func TestMoreByTheWords(t *testing.T) {
	for _, sum := range edges {
		for _, w := range edges {
			if s := More(sum, w); s != plainMore(sum, w) {
				t.Errorf("More(%d, %d) = %d, want %d", sum, w, s, plainMore(sum, w))
			}
		}
	}
	next := draw(1)
	for range 5000 {
		sum, w := next(), next()
		if s := More(sum, w); s != plainMore(sum, w) {
			t.Fatalf("More(%d, %d) = %d, want %d", sum, w, s, plainMore(sum, w))
		}
	}
}

func TestSum(t *testing.T) {
	for _, c := range []struct {
		l    []uint64
		want uint64
	}{
		{nil, startWord},
		{[]uint64{}, startWord},
		{[]uint64{0}, 12638153115695167455},
		{[]uint64{1}, 12638152016183539244},
		{[]uint64{'a'}, 12638187200555641996},
		{[]uint64{'f', 'o', 'o', 'b', 'a', 'r'}, 9625390261332436968},
		{[]uint64{startWord}, 0},
		{[]uint64{startWord, 0}, 0},
		{[]uint64{math.MaxUint64}, 5808589858502755950},
		{[]uint64{topBit}, 3414781078840391647},
		{[]uint64{0, 0}, 590684067820433389},
		{[]uint64{1, 2}, 589729691727335466},
		{[]uint64{2, 1}, 592596118541513868},
		{[]uint64{1, 2, 3}, 15035938162879559083},
		{[]uint64{0x73756d70, 64, 11}, 7573039558611423906},
		{slices.Repeat([]uint64{math.MaxUint64}, 3), 2165342910395691796},
		{make([]uint64, 32), 901300984310592933},
	} {
		if s := Sum(c.l); s != c.want {
			t.Errorf("Sum(%v) = %d, want %d", c.l, s, c.want)
		}
	}
}

func TestSumByTheWords(t *testing.T) {
	for _, l := range lists() {
		if s := Sum(l); s != plainSum(l) {
			t.Errorf("Sum of %d words, %v ..: %d, want %d", len(l), l[:min(4, len(l))], s, plainSum(l))
		}
	}
}

// Behind each word the sum is More of the one ahead of it, from Start on.
func TestSumIsMoreFromStartOn(t *testing.T) {
	for _, l := range lists() {
		sum := Start()
		for i := range l {
			if s := Sum(l[:i]); s != sum {
				t.Fatalf("Sum of the first %d of %d words: %d, want %d", i, len(l), s, sum)
			}
			sum = More(sum, l[i])
			if i > 100 {
				break
			}
		}
	}
}

func TestSumOfManyWords(t *testing.T) {
	next, sum := draw(3), startWord
	l := make([]uint64, 1<<20)
	for i := range l {
		l[i] = next()
		sum = (sum ^ l[i]) * factorWord
	}
	if s := Sum(l); s != sum {
		t.Errorf("Sum: %d, want %d", s, sum)
	}
}

// P7.2

func TestSeal(t *testing.T) {
	for _, c := range []struct{ l, want []uint64 }{
		{nil, []uint64{startWord}},
		{[]uint64{}, []uint64{startWord}},
		{[]uint64{0}, []uint64{0, 12638153115695167455}},
		{[]uint64{startWord}, []uint64{startWord, 0}},
		{[]uint64{1, 2}, []uint64{1, 2, 589729691727335466}},
		{[]uint64{1, 2, 3}, []uint64{1, 2, 3, 15035938162879559083}},
	} {
		if s := Seal(c.l); !slices.Equal(s, c.want) {
			t.Errorf("Seal(%v) = %v, want %v", c.l, s, c.want)
		}
	}
	for _, l := range lists() {
		s := Seal(l)
		if len(s) != len(l)+1 || !slices.Equal(s[:len(l)], l) || s[len(l)] != plainSum(l) {
			t.Errorf("Seal of %d words, %v ..: %d words", len(l), l[:min(4, len(l))], len(s))
		}
	}
}

func TestOpen(t *testing.T) {
	for _, c := range []struct {
		l, want []uint64
		is      bool
	}{
		{nil, nil, false}, // the chapter's example
		{[]uint64{}, nil, false},
		{[]uint64{startWord}, nil, true},
		{[]uint64{0}, nil, false},
		{[]uint64{startWord + 1}, nil, false},
		{[]uint64{startWord - 1}, nil, false},
		{[]uint64{startWord ^ topBit}, nil, false},
		{[]uint64{math.MaxUint64}, nil, false},
		{[]uint64{0, 12638153115695167455}, []uint64{0}, true},
		{[]uint64{0, 12638153115695167454}, nil, false},
		{[]uint64{1, 12638153115695167455}, nil, false},
		{[]uint64{12638153115695167455, 0}, nil, false},
		{[]uint64{0, 0}, nil, false},
		{[]uint64{startWord, 0}, []uint64{startWord}, true},
		{[]uint64{startWord, startWord}, nil, false},
		{[]uint64{0, startWord}, nil, false},
		{[]uint64{1, 2, 589729691727335466}, []uint64{1, 2}, true},
		{[]uint64{2, 1, 589729691727335466}, nil, false},
		{[]uint64{589729691727335466, 1, 2}, nil, false},
		{[]uint64{1, 2, 589729691727335466, 1}, nil, false},
		{[]uint64{1, 2, 589729691727335466, 0}, []uint64{1, 2, 589729691727335466}, true}, // a sum behind itself comes to 0
		{[]uint64{0, 1, 2, 589729691727335466}, nil, false},
		{[]uint64{1, 2}, nil, false},
		{[]uint64{1, 589729691727335466}, nil, false},
		{[]uint64{2, 589729691727335466}, nil, false},
		{make([]uint64, 32), nil, false},
		{slices.Repeat([]uint64{math.MaxUint64}, 9), nil, false},
	} {
		if l, is := Open(c.l); !slices.Equal(l, c.want) || is != c.is {
			t.Errorf("Open(%v) = %v, %v, want %v, %v", c.l, l, is, c.want, c.is)
		}
	}
}

// Any words are opened just if the Seal of those ahead of the last one is all of them.
func TestOpenByTheWords(t *testing.T) {
	check := func(l []uint64) {
		t.Helper()
		opened, is := Open(l)
		want := len(l) > 0 && plainSum(l[:len(l)-1]) == l[len(l)-1]
		switch {
		case is != want:
			t.Errorf("Open of %d words, %v ..: %v", len(l), l[:min(4, len(l))], is)
		case is && !slices.Equal(Seal(opened), l):
			t.Errorf("Open of %d words, %v ..: none of its Seals", len(l), l[:min(4, len(l))])
		case !is && len(opened) != 0:
			t.Errorf("Open of %d words, %v ..: false and %d words", len(l), l[:min(4, len(l))], len(opened))
		}
	}
	for _, l := range lists() {
		check(l)
		check(Seal(l))
		check(Seal(Seal(l)))
		check(append(Seal(l), 0))
		check(append([]uint64{0}, Seal(l)...))
		check(Seal(l)[1:])
	}
}

// P7.3

func TestOpenOfSeal(t *testing.T) {
	for _, l := range lists() {
		if opened, is := Open(Seal(l)); !slices.Equal(opened, l) || !is {
			t.Errorf("Open of Seal of %d words, %v ..: %d words, %v", len(l), l[:min(4, len(l))], len(opened), is)
		}
		twice, _ := Open(Seal(Seal(l)))
		if opened, is := Open(twice); !slices.Equal(opened, l) || !is {
			t.Errorf("twice sealed, %d words, %v ..: %d words, %v", len(l), l[:min(4, len(l))], len(opened), is)
		}
	}
}

// others are words that aren't w: each of its bits turned by itself, its neighbours, and the edges.
func others(w uint64) []uint64 {
	l := []uint64{w + 1, w - 1, ^w, w + topBit}
	for bit := range 64 {
		l = append(l, w^1<<bit)
	}
	for _, x := range edges {
		if x != w {
			l = append(l, x)
		}
	}
	return l
}

func TestOneOtherWordHasAnotherSum(t *testing.T) {
	next := draw(11)
	for _, n := range []int{1, 2, 3, 8, 31, 32, 33, 128} {
		l := drawList(next, n)
		sum := Sum(l)
		for i, w := range l {
			for _, x := range others(w) {
				l[i] = x
				if Sum(l) == sum {
					t.Errorf("%d words: word %d as %d or %d: one sum", n, i, w, x)
				}
			}
			l[i] = w
		}
	}
}

// One word may be whichever it likes: no two of many give one sum, wherever it stands.
func TestManyWordsAtOnePlaceHaveManySums(t *testing.T) {
	next := draw(13)
	for _, n := range []int{1, 2, 9} {
		for i := range n {
			l := drawList(next, n)
			words, sums := map[uint64]bool{}, map[uint64]bool{}
			for m := range 3000 {
				for _, w := range []uint64{uint64(m), uint64(m) << 52, next()} {
					l[i] = w
					words[w], sums[Sum(l)] = true, true
				}
			}
			if len(words) != len(sums) {
				t.Errorf("%d words, place %d: %d words, %d sums", n, i, len(words), len(sums))
			}
		}
	}
}

// A Seal of which one word, the sum itself too, is another one is none's.
func TestOpenOfASealThatIsNotAsItWas(t *testing.T) {
	next := draw(17)
	for _, n := range []int{0, 1, 2, 7, 32, 65} {
		l := Seal(drawList(next, n))
		for i, w := range l {
			for _, x := range others(w) {
				l[i] = x
				if opened, is := Open(l); is || len(opened) != 0 {
					t.Errorf("%d words: word %d as %d, not %d: opened", n, i, x, w)
				}
			}
			l[i] = w
		}
		if _, is := Open(l); !is {
			t.Errorf("%d words: not opened as it was", n)
		}
	}
}

// The rules that hold everywhere

func TestNilIsLikeEmpty(t *testing.T) {
	if Sum(nil) != Sum([]uint64{}) || !slices.Equal(Seal(nil), Seal([]uint64{})) {
		t.Error("nil has another sum")
	}
	for _, l := range [][]uint64{nil, {}, make([]uint64, 0, 5)} {
		if opened, is := Open(l); is || opened != nil {
			t.Errorf("Open(%#v) = %#v, %v", l, opened, is)
		}
	}
}

// Neither the argument nor what lies behind its end is changed, and no answer hangs on what lies there.
func TestArgumentsStayAsTheyAre(t *testing.T) {
	for _, l := range lists() {
		for _, behind := range [][]uint64{{0, 0}, {Sum(l), 5}, {math.MaxUint64, startWord}} {
			room := append(slices.Clone(l), behind...)
			was := slices.Clone(room)
			given := room[:len(l)]
			sum, sealed := Sum(given), Seal(given)
			opened, is := Open(given)
			if !slices.Equal(room, was) {
				t.Fatalf("%d words: changed", len(l))
			}
			plain, plainIs := Open(slices.Clip(slices.Clone(l)))
			if sum != plainSum(l) || !slices.Equal(sealed, Seal(slices.Clip(slices.Clone(l)))) || !slices.Equal(opened, plain) || is != plainIs {
				t.Fatalf("%d words: answers hang on what lies behind", len(l))
			}
		}
	}
}

// whole is a list with all that lies behind its end.
func whole(l []uint64) []uint64 { return l[:cap(l)] }

func TestAnswersShareNothing(t *testing.T) {
	for _, l := range lists() {
		given := append(slices.Clone(l), 77)[:len(l)]
		was := slices.Clone(l)
		one, two := Seal(given), Seal(given)
		sealed := slices.Clone(one)
		a, isA := Open(one)
		b, isB := Open(one)
		if !isA || !isB {
			t.Fatalf("%d words: not opened", len(l))
		}
		for _, answer := range [][]uint64{a, two} {
			for i := range whole(answer) {
				whole(answer)[i]++
			}
		}
		if !slices.Equal(given, was) || whole(given)[len(l)] != 77 || !slices.Equal(one, sealed) || !slices.Equal(b, was) {
			t.Fatalf("%d words: answers share memory", len(l))
		}
		for i := range given {
			given[i]++
		}
		if !slices.Equal(one, sealed) || !slices.Equal(b, was) {
			t.Fatalf("%d words: answers share memory with what was given", len(l))
		}
	}
}

// What lies behind an answer's end has nothing of what was given: not even the sum.
func TestNothingBehindAnswers(t *testing.T) {
	for _, l := range lists() {
		sealed := Seal(l)
		opened, _ := Open(sealed)
		for _, answer := range [][]uint64{sealed, opened} {
			for _, w := range whole(answer)[len(answer):] {
				if w != 0 {
					t.Fatalf("%d words: %d behind the end", len(l), w)
				}
			}
		}
	}
}

// No sum is kept from call to call, not even while others are on their way.
func TestSumsHangOnTheirWordsAlone(t *testing.T) {
	all := lists()
	var wants []uint64
	for _, l := range all {
		wants = append(wants, Sum(l))
	}
	var group sync.WaitGroup
	for range 4 {
		group.Go(func() {
			for i, l := range all {
				if s := Sum(l); s != wants[i] {
					t.Errorf("list %d: %d, then %d", i, wants[i], s)
				}
				if opened, is := Open(Seal(l)); !is || !slices.Equal(opened, l) {
					t.Errorf("list %d: not opened", i)
				}
			}
		})
	}
	group.Wait()
}
