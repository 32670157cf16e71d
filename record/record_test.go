package record

import (
	"bytes"
	"slices"
	"strings"
	"sync"
	"testing"
	"unsafe"

	"sump/api"
	"sump/effect"
)

// The chapter's errors, kinds and limits, by their numbers.
const (
	errForm    api.Errno = 92
	errCorrupt api.Errno = 74
	kMake                = 1
	kLink                = 2
	kUnlink              = 3
	kRmdir               = 4
	kRename              = 5
	kTrunc               = 6
	kWrite               = 7
	kDrop                = 8
	greatRef             = 1048576
	maxIno               = 1048576
	pageBytes            = 256
	greatest             = int(^uint(0) >> 1)
)

// draw is a row of numbers that is the same each time.
func draw(seed uint64) func(below int) int {
	x := seed*2862933555777941757 + 88172645463325252
	return func(below int) int {
		x ^= x << 13
		x ^= x >> 7
		x ^= x << 17
		return int(x >> 20 % uint64(below))
	}
}

func data(b byte) []byte { return bytes.Repeat([]byte{b}, pageBytes) }

// put is an effect with its ref, and the words that it must have.
type put struct {
	e   api.Effect
	ref int
	l   []uint64
}

// puts are some of each kind, with their words written out.
func puts() []put {
	return []put{
		{api.Effect{Kind: kMake, Dir: 1, Name: "a", Ino: 2, Page: 1}, 0,
			[]uint64{12, 1, 2, 1, 0, 1, 0, 0, 1, 97, 0, 10971402921483425054}},
		{api.Effect{Kind: kLink, Dir: 1, Name: "12345678", Ino: 2}, 0,
			[]uint64{12, 2, 2, 1, 0, 0, 0, 0, 8, 4050765991979987505, 0, 14924878117744787819}},
		{api.Effect{Kind: kUnlink, Dir: 1, Name: "123456789", Ino: 2}, 0,
			[]uint64{13, 3, 2, 1, 0, 0, 0, 0, 9, 4050765991979987505, 57, 0, 9152600165781687415}},
		{api.Effect{Kind: kRmdir, Dir: 1, Name: "d", Ino: 3}, 0,
			[]uint64{12, 4, 3, 1, 0, 0, 0, 0, 1, 100, 0, 10845461961347120308}},
		{api.Effect{Kind: kRename, Dir: 1, Name: "a", To: 3, Other: "abcdefghijklmnopqrstuvwx", Ino: 2}, 0,
			[]uint64{15, 5, 2, 1, 3, 0, 0, 0, 1, 97, 24, 7523094288207667809, 8101815670912281193, 8680537053616894577, 17088995712290403592}},
		{api.Effect{Kind: kTrunc, Ino: 2, Size: 5}, 0,
			[]uint64{11, 6, 2, 0, 0, 0, 5, 0, 0, 0, 14734482343661891283}},
		{api.Effect{Kind: kWrite, Ino: 2, Page: 1, Size: 300, Data: data(7)}, 9,
			[]uint64{11, 7, 2, 0, 0, 1, 300, 9, 0, 0, 18375508778584041713}},
		{api.Effect{Kind: kWrite, Ino: maxIno, Page: 63, Size: 16384, Data: data(255)}, greatRef,
			[]uint64{11, 7, 1048576, 0, 0, 63, 16384, 1048576, 0, 0, 10025221818277118342}},
		{api.Effect{Kind: kDrop, Ino: 2}, 0,
			[]uint64{11, 8, 2, 0, 0, 0, 0, 0, 0, 0, 7951377739470200644}},
	}
}

// plainSum is the sum that the chapter of check tells.
func plainSum(l []uint64) uint64 {
	sum := uint64(14695981039346656037)
	for _, w := range l {
		sum ^= w
		sum *= 1099511628211
	}
	return sum
}

// sealed are l's words with their sum behind them.
func sealed(l []uint64) []uint64 { return append(slices.Clone(l), plainSum(l)) }

// plainText is a text's length and its bytes, eight a word, the first one lowest.
func plainText(s string) []uint64 {
	l := []uint64{uint64(len(s))}
	for i := range len(s) {
		if i%8 == 0 {
			l = append(l, 0)
		}
		l[len(l)-1] += uint64(s[i]) << (i % 8 * 8)
	}
	return l
}

// plainPut goes by the chapter's words, whether the effect may be or not.
func plainPut(e api.Effect, ref int) []uint64 {
	l := []uint64{0, uint64(e.Kind), uint64(e.Ino), uint64(e.Dir), uint64(e.To), uint64(e.Page), uint64(e.Size), uint64(ref)}
	l = append(append(l, plainText(e.Name)...), plainText(e.Other)...)
	l[0] = uint64(len(l) + 1)
	return sealed(l)
}

// zeroed is e as it is read: a write has bytes 0.
func zeroed(e api.Effect) api.Effect {
	if e.Kind == kWrite {
		e.Data = data(0)
	}
	return e
}

// drawName has 1 to 24 bytes of all kinds, but for those that a name may not have.
func drawName(next func(below int) int) string {
	b := make([]byte, 1+next(24))
	for i := range b {
		b[i] = byte(48 + next(208))
	}
	return string(b)
}

// drawEffect may be, of any kind.
func drawEffect(next func(below int) int) (api.Effect, int) {
	e := api.Effect{Kind: 1 + next(8), Ino: 1 + next(maxIno)}
	ref := 0
	switch e.Kind {
	case kMake:
		e.Dir, e.Name, e.Page = 1+next(maxIno), drawName(next), 1+next(2)
	case kLink, kUnlink, kRmdir:
		e.Dir, e.Name = 1+next(maxIno), drawName(next)
	case kRename:
		e.Dir, e.Name, e.To, e.Other = 1+next(maxIno), drawName(next), 1+next(maxIno), drawName(next)
	case kTrunc:
		e.Size = next(16385)
	case kWrite:
		e.Page, e.Data = next(64), data(byte(next(256)))
		e.Size = 256*e.Page + 1 + next(16384-256*e.Page)
		ref = next(greatRef + 1)
	}
	return e, ref
}

// drawPuts are some that may be, one behind the other.
func drawPuts(next func(below int) int, many int) []put {
	l := make([]put, many)
	for i := range l {
		e, ref := drawEffect(next)
		l[i] = put{e, ref, plainPut(e, ref)}
	}
	return l
}

// expectOf asks for just this answer, with no field beside those.
func expectOf(t *testing.T, l []uint64, e api.Effect, ref, many int) {
	t.Helper()
	gotE, gotRef, gotMany, err := Of(l)
	if err != api.OK || gotRef != ref || gotMany != many || !effect.Same(gotE, e) {
		t.Fatalf("Of(%v) = %v, %v, %v, %v; it must be %v, %v, %v, OK", l, gotE, gotRef, gotMany, err, e, ref, many)
	}
}

func expectCorrupt(t *testing.T, l []uint64) {
	t.Helper()
	e, ref, many, err := Of(l)
	if err != errCorrupt || ref != 0 || many != 0 || !effect.Same(e, api.Effect{}) {
		t.Fatalf("Of(%v) = %v, %v, %v, %v; it must be ErrCorrupt", l, e, ref, many, err)
	}
}

func expectAllCorrupt(t *testing.T, l []uint64) {
	t.Helper()
	effects, refs, err := All(l)
	if err != errCorrupt || len(effects) != 0 || len(refs) != 0 {
		t.Fatalf("All(%v) = %v, %v, %v; it must be ErrCorrupt", l, effects, refs, err)
	}
}

// P10.1

func TestPut(t *testing.T) {
	for _, p := range puts() {
		l, err := Put(p.e, p.ref)
		if err != api.OK || !slices.Equal(l, p.l) {
			t.Errorf("Put(%v, %v) = %v, %v; it must be %v", p.e, p.ref, l, err, p.l)
		}
		if n := Need(p.e); n != len(p.l) {
			t.Errorf("Need(%v) = %v; it must be %v", p.e, n, len(p.l))
		}
	}
}

func TestPutOfEachLengthOfNames(t *testing.T) {
	for n := 1; n <= 24; n++ {
		for m := 1; m <= 24; m++ {
			e := api.Effect{Kind: kRename, Dir: 4, Name: strings.Repeat("x", n), To: 5, Other: strings.Repeat("\xff", m), Ino: 6}
			l, err := Put(e, 0)
			many := 11 + (n+7)/8 + (m+7)/8
			if err != api.OK || !slices.Equal(l, plainPut(e, 0)) || len(l) != many || Need(e) != many {
				t.Fatalf("names of %v and %v bytes: %v, %v; Need %v", n, m, l, err, Need(e))
			}
		}
	}
}

func TestPutByTheWords(t *testing.T) {
	next := draw(1)
	for range 5000 {
		e, ref := drawEffect(next)
		l, err := Put(e, ref)
		if err != api.OK || !slices.Equal(l, plainPut(e, ref)) || Need(e) != len(l) {
			t.Fatalf("Put(%v, %v) = %v, %v", e, ref, l, err)
		}
	}
}

func TestPutHasNoData(t *testing.T) {
	e := api.Effect{Kind: kWrite, Ino: 2, Size: 1, Data: data(1)}
	one, _ := Put(e, 3)
	e.Data = data(2)
	other, _ := Put(e, 3)
	if len(one) != 11 || !slices.Equal(one, other) {
		t.Errorf("of unlike bytes: %v and %v", one, other)
	}
}

func expectRefused(t *testing.T, e api.Effect, ref int) {
	t.Helper()
	if l, err := Put(e, ref); err != errForm || len(l) != 0 {
		t.Errorf("Put(%v, %v) = %v, %v; it must be ErrForm", e, ref, l, err)
	}
}

func TestPutOfRefs(t *testing.T) {
	for _, p := range puts() {
		for _, ref := range []int{0, 1, 2, 47, 1 << 19, greatRef - 1, greatRef} {
			l, err := Put(p.e, ref)
			if ref != 0 && p.e.Kind != kWrite {
				expectRefused(t, p.e, ref)
			} else if err != api.OK || !slices.Equal(l, plainPut(p.e, ref)) {
				t.Errorf("Put(%v, %v) = %v, %v", p.e, ref, l, err)
			}
		}
		for _, ref := range []int{-1, -2, -greatRef, greatRef + 1, greatRef + 2, 1 << 21, 1 << 32, 1<<32 + 1, 1 << 62, greatest, -greatest - 1} {
			expectRefused(t, p.e, ref)
		}
	}
}

// refused are effects that effect.Check refuses.
func refused() []api.Effect {
	return []api.Effect{
		{},
		{Kind: kDrop},
		{Kind: kDrop, Ino: -1},
		{Kind: kDrop, Ino: maxIno + 1},
		{Kind: kDrop, Ino: 2, Size: 1},
		{Kind: 9, Ino: 2},
		{Kind: -1, Ino: 2},
		{Kind: kMake, Dir: 1, Name: "a", Ino: 2, Page: 3},
		{Kind: kMake, Dir: 1, Name: "a", Ino: 2},
		{Kind: kLink, Dir: 1, Name: "", Ino: 2},
		{Kind: kLink, Dir: 1, Name: "a/b", Ino: 2},
		{Kind: kLink, Dir: 1, Name: "abcdefghijklmnopqrstuvwxy", Ino: 2},
		{Kind: kUnlink, Dir: 1, Name: "..", Ino: 2},
		{Kind: kRmdir, Dir: 1, Name: "d", Ino: 2, Other: "e"},
		{Kind: kRename, Dir: 1, Name: "a", To: 0, Other: "b", Ino: 2},
		{Kind: kTrunc, Ino: 2, Size: 16385},
		{Kind: kTrunc, Ino: 2, Size: -1},
		{Kind: kWrite, Ino: 2, Size: 1},
		{Kind: kWrite, Ino: 2, Size: 1, Data: data(1)[:255]},
		{Kind: kWrite, Ino: 2, Size: 1, Data: append(data(1), 0)},
		{Kind: kWrite, Ino: 2, Page: 1, Size: 256, Data: data(1)},
		{Kind: kWrite, Ino: 2, Page: 64, Size: 16385, Data: data(1)},
		{Kind: greatest, Ino: greatest, Dir: greatest, To: greatest, Page: greatest, Size: greatest},
	}
}

func TestPutRefuses(t *testing.T) {
	for _, e := range refused() {
		for _, ref := range []int{0, 1, -1, greatRef} {
			expectRefused(t, e, ref)
		}
		if n := Need(e); n != 0 {
			t.Errorf("Need(%v) = %v; it must be 0", e, n)
		}
	}
}

// P10.2

func TestOf(t *testing.T) {
	for _, p := range puts() {
		expectOf(t, p.l, zeroed(p.e), p.ref, len(p.l))
	}
}

func TestOfNothing(t *testing.T) {
	expectCorrupt(t, nil)
	expectCorrupt(t, []uint64{})
}

func TestOfWordsThatAreMissing(t *testing.T) {
	for _, p := range puts() {
		for n := range p.l {
			expectCorrupt(t, p.l[:n])
		}
		expectCorrupt(t, p.l[1:])
	}
}

// turned are words that aren't w.
func turned(w uint64) []uint64 {
	l := []uint64{w + 1, w - 1, 0, 1, 11, 12, 17, 1 << 32, 1<<62 + 1, 1<<63 + w, ^uint64(0), w ^ 1<<33}
	return slices.DeleteFunc(l, func(x uint64) bool { return x == w })
}

func TestOfOneWordThatIsAnother(t *testing.T) {
	for _, p := range puts() {
		for i, w := range p.l {
			for _, x := range turned(w) {
				l := slices.Clone(p.l)
				l[i] = x
				expectCorrupt(t, l)
				expectCorrupt(t, append(l, p.l...))
			}
		}
	}
}

// plainOf reads by the chapter's words: it asks of each field what it must be, and never Puts.
func plainOf(l []uint64) (put, bool) {
	if len(l) < 11 || l[0] < 11 || l[0] > uint64(len(l)) {
		return put{}, false
	}
	own := l[:l[0]]
	if plainSum(own[:len(own)-1]) != own[len(own)-1] {
		return put{}, false
	}
	rest := own[8 : len(own)-1]
	name, rest, is := plainName(rest)
	other, rest, too := plainName(rest)
	if !is || !too || len(rest) != 0 {
		return put{}, false
	}
	e := api.Effect{Kind: int(own[1]), Ino: int(own[2]), Dir: int(own[3]), To: int(own[4]), Page: int(own[5]), Size: int(own[6]), Name: name, Other: other}
	e = zeroed(e)
	ref := own[7]
	is = effect.Check(e) == api.OK && ref <= greatRef && (ref == 0 || e.Kind == kWrite)
	return put{e, int(ref), own}, is
}

// plainName reads a text, and tells what is behind it.
func plainName(l []uint64) (string, []uint64, bool) {
	if len(l) == 0 || l[0] > 24 || len(l) < 1+int(l[0]+7)/8 {
		return "", nil, false
	}
	b := make([]byte, int(l[0]+7)/8*8)
	for i := range b {
		b[i] = byte(l[1+i/8] >> (i % 8 * 8))
	}
	n := int(l[0])
	if strings.Trim(string(b[n:]), "\x00") != "" {
		return "", nil, false
	}
	return string(b[:n]), l[1+len(b)/8:], true
}

func expectByTheWords(t *testing.T, l []uint64) bool {
	t.Helper()
	p, is := plainOf(l)
	if is {
		expectOf(t, l, p.e, p.ref, len(p.l))
	} else {
		expectCorrupt(t, l)
	}
	return is
}

// A sum that is mended doesn't make what may not be into a record.
func TestOfWhatHasItsSumButCanNotBe(t *testing.T) {
	took := 0
	for _, p := range puts() {
		last := len(p.l) - 1
		for i := range last {
			for _, x := range append(turned(p.l[i]), 2, 3, 4, 5, 6, 7, 8, 9, 63, 64, 257, 16384, 16385, greatRef, greatRef+1) {
				l := slices.Clone(p.l[:last])
				l[i] = x
				l = sealed(l)
				if expectByTheWords(t, l) {
					took++
				}
				expectByTheWords(t, append(l, p.l...))
			}
		}
	}
	if took < 100 {
		t.Errorf("only %v others were records", took)
	}
}

func TestOfRecordsThatCanNotBe(t *testing.T) {
	ok := plainPut(api.Effect{Kind: kDrop, Ino: 2}, 0)
	expectOf(t, ok, api.Effect{Kind: kDrop, Ino: 2}, 0, 11)
	drop := []uint64{11, 8, 2, 0, 0, 0, 0, 0, 0, 0}
	expectOf(t, sealed(drop), api.Effect{Kind: kDrop, Ino: 2}, 0, 11)
	for _, l := range [][]uint64{
		{10, 8, 2, 0, 0, 0, 0, 0, 0},
		{12, 8, 2, 0, 0, 0, 0, 0, 0, 0, 0},
		{12, 8, 2, 0, 0, 0, 0, 0, 0, 0},
		{10, 8, 2, 0, 0, 0, 0, 0, 0, 0},
		{11, 8, 2, 0, 0, 0, 0, 1, 0, 0},
		{11, 7, 2, 0, 0, 0, 1, 1048577, 0, 0},
		{11, 7, 2, 0, 0, 0, 1, ^uint64(0), 0, 0},
		{11, 6, 2, 0, 0, 0, ^uint64(0), 0, 0, 0},
		{11, 1<<63 + 8, 2, 0, 0, 0, 0, 0, 0, 0},
		{12, 2, 2, 1, 0, 0, 0, 0, 1, 97 + 98<<8, 0},
		{12, 2, 2, 1, 0, 0, 0, 0, 9, 97, 0},
		{11, 2, 2, 1, 0, 0, 0, 0, 0, 0},
		{15, 2, 2, 1, 0, 0, 0, 0, 25, 97, 97, 97, 97, 0},
		{12, 2, 2, 1, 0, 0, 0, 0, 0, 1, 97},
		{0, 8, 2, 0, 0, 0, 0, 0, 0, 0},
		{},
		{0},
		{2},
		{3, 3},
	} {
		expectCorrupt(t, sealed(l))
		expectCorrupt(t, append(sealed(l), ok...))
		expectAllCorrupt(t, sealed(l))
	}
}

func TestOfEffectsThatCheckRefuses(t *testing.T) {
	for _, e := range refused() {
		if e.Kind == kWrite && len(e.Data) != pageBytes && effect.Check(zeroed(e)) == api.OK {
			continue
		}
		for _, ref := range []int{0, 1} {
			expectCorrupt(t, plainPut(e, ref))
		}
	}
}

func TestOfManyThatTheFirstWordTells(t *testing.T) {
	p := puts()[0]
	for n := range uint64(60) {
		l := append(slices.Clone(p.l), make([]uint64, 30)...)
		l[0] = n
		if n != 12 {
			expectCorrupt(t, l)
		}
	}
	for _, n := range []uint64{1 << 31, 1 << 32, 1<<32 + 12, 1 << 62, 1<<62 + 1, 1 << 63, 1<<63 + 12, ^uint64(0)} {
		l := slices.Clone(p.l)
		l[0] = n
		expectCorrupt(t, l)
		expectAllCorrupt(t, l)
		expectCorrupt(t, []uint64{n})
	}
}

func TestOfDrawnWords(t *testing.T) {
	next := draw(2)
	for range 20000 {
		l := make([]uint64, next(30))
		for i := range l {
			l[i] = uint64(next(14))
			if next(20) == 0 {
				l[i] = uint64(next(1<<40)) << next(24)
			}
		}
		if len(l) > 12 && next(2) == 0 {
			l[0] = uint64(11 + next(2))
			l[l[0]-1] = plainSum(l[:l[0]-1])
		}
		expectByTheWords(t, l)
	}
}

func expectAll(t *testing.T, l []uint64, want []put) {
	t.Helper()
	effects, refs, err := All(l)
	if err != api.OK || len(effects) != len(want) || len(refs) != len(want) {
		t.Fatalf("All: %v effects, %v refs, %v; there must be %v", len(effects), len(refs), err, len(want))
	}
	for i, p := range want {
		if !effect.Same(effects[i], zeroed(p.e)) || refs[i] != p.ref {
			t.Fatalf("All: at %v %v, %v; it must be %v, %v", i, effects[i], refs[i], p.e, p.ref)
		}
	}
}

// inARow lays the words of all one behind the other.
func inARow(all []put) []uint64 {
	var l []uint64
	for _, p := range all {
		l = append(l, p.l...)
	}
	return l
}

func TestAllOfNothing(t *testing.T) {
	expectAll(t, nil, nil)
	expectAll(t, []uint64{}, nil)
}

func TestAll(t *testing.T) {
	expectAll(t, inARow(puts()), puts())
	for _, p := range puts() {
		expectAll(t, p.l, []put{p})
		expectAll(t, inARow([]put{p, p, p}), []put{p, p, p})
	}
}

func TestAllOfABeginning(t *testing.T) {
	all := puts()
	l := inARow(all)
	ends := map[int]int{0: 0}
	at := 0
	for i, p := range all {
		at += len(p.l)
		ends[at] = i + 1
	}
	for n := range len(l) + 1 {
		if many, is := ends[n]; is {
			expectAll(t, l[:n], all[:many])
		} else {
			expectAllCorrupt(t, l[:n])
		}
	}
}

func TestAllOfWordsThatAreNone(t *testing.T) {
	l := inARow(puts())
	for _, w := range []uint64{0, 1, 11, 12, ^uint64(0)} {
		expectAllCorrupt(t, append(slices.Clone(l), w))
		expectAllCorrupt(t, append([]uint64{w}, l...))
		expectAllCorrupt(t, []uint64{w})
	}
	for i := range l {
		spoilt := slices.Clone(l)
		spoilt[i] ^= 1 << (i % 64)
		expectAllCorrupt(t, spoilt)
	}
	expectAllCorrupt(t, append(slices.Clone(l), make([]uint64, 40)...))
}

func TestAllOfALongLog(t *testing.T) {
	all := drawPuts(draw(3), 20000)
	l := inARow(all)
	expectAll(t, l, all)
	expectAllCorrupt(t, l[:len(l)-1])
}

// P10.3

func TestThereAndBack(t *testing.T) {
	next := draw(4)
	for range 3000 {
		e, ref := drawEffect(next)
		l, err := Put(e, ref)
		if err != api.OK {
			t.Fatalf("Put(%v, %v): %v", e, ref, err)
		}
		many := Need(e)
		expectOf(t, l, zeroed(e), ref, many)
		behind := make([]uint64, next(40))
		for i := range behind {
			behind[i] = uint64(next(1<<40)) << next(25)
		}
		expectOf(t, append(l, behind...), zeroed(e), ref, many)
	}
}

func TestThereAndBackWithRecordsBehind(t *testing.T) {
	for _, p := range puts() {
		l, _ := Put(p.e, p.ref)
		for _, q := range puts() {
			expectOf(t, append(slices.Clone(l), q.l...), zeroed(p.e), p.ref, len(p.l))
			expectOf(t, append(slices.Clone(l), q.l[1:]...), zeroed(p.e), p.ref, len(p.l))
		}
	}
}

// Rules that hold everywhere

func TestNilIsLikeEmpty(t *testing.T) {
	e := api.Effect{Kind: kDrop, Ino: 2}
	bare, err := Put(e, 0)
	e.Data = []byte{}
	empty, too := Put(e, 0)
	if err != api.OK || too != api.OK || !slices.Equal(bare, empty) || Need(e) != 11 {
		t.Errorf("of nil and empty Data: %v, %v and %v, %v", bare, err, empty, too)
	}
}

func TestArgumentsStayAsTheyAre(t *testing.T) {
	for _, p := range puts() {
		e := p.e
		e.Data = slices.Clone(p.e.Data)
		Put(e, p.ref)
		Need(e)
		if !effect.Same(e, p.e) {
			t.Errorf("%v has become %v", p.e, e)
		}
		l := append(slices.Clone(p.l), p.l...)
		was := slices.Clone(l)
		for _, n := range []int{len(p.l) - 1, len(p.l), len(p.l) + 1, len(l)} {
			Of(l[:n])
			All(l[:n])
			if !slices.Equal(l, was) {
				t.Errorf("%v has become %v", was, l)
			}
		}
	}
}

// What lies behind a list's length isn't read, even if it would make a record whole.
func TestWhatLiesBehindIsNotRead(t *testing.T) {
	for _, p := range puts() {
		for n := range p.l {
			expectCorrupt(t, slices.Clone(p.l)[:n])
			if n > 0 {
				expectAllCorrupt(t, slices.Clone(p.l)[:n])
			}
		}
	}
}

// share doesn't ask of texts of one byte: those that never change stand in one place, whoever makes them.
func share(a, b string) bool {
	return len(a) > 1 && len(b) > 1 && unsafe.StringData(a) == unsafe.StringData(b)
}

func TestAnswersShareNothing(t *testing.T) {
	for _, p := range puts() {
		one, _ := Put(p.e, p.ref)
		other, _ := Put(p.e, p.ref)
		clear(one[:cap(one)])
		if !slices.Equal(other, p.l) {
			t.Errorf("%v's words are shared", p.e)
		}
		l := slices.Clone(p.l)
		a, _, _, _ := Of(l)
		b, _, _, _ := Of(l)
		clear(l)
		if share(a.Name, b.Name) || share(a.Other, b.Other) || !effect.Same(a, zeroed(p.e)) {
			t.Errorf("%v: %v and %v share", p.e, a, b)
		}
		clear(b.Data[:cap(b.Data)])
		for i := range b.Data {
			b.Data[i] = 9
		}
		if !effect.Same(a, zeroed(p.e)) {
			t.Errorf("%v's bytes are shared", p.e)
		}
	}
}

func TestAllSharesNothing(t *testing.T) {
	p := puts()[6]
	effects, _, _ := All(inARow([]put{p, p, p}))
	for i := range effects {
		whole := effects[i].Data[:cap(effects[i].Data)]
		for j := range whole {
			whole[j] = byte(i + 1)
		}
	}
	for i, e := range effects {
		if !bytes.Equal(e.Data, data(byte(i+1))) {
			t.Errorf("the bytes of %v are shared", i)
		}
	}
	q := puts()[4]
	named, _, _ := All(inARow([]put{q, q}))
	if share(named[0].Name, named[1].Name) || share(named[0].Other, named[1].Other) {
		t.Error("names are shared")
	}
}

func TestAnswersHangOnTheirArgumentsAlone(t *testing.T) {
	all := puts()
	l := inARow(all)
	var wait sync.WaitGroup
	for range 8 {
		wait.Go(func() {
			for range 50 {
				for _, p := range all {
					if got, err := Put(p.e, p.ref); err != api.OK || !slices.Equal(got, p.l) {
						t.Errorf("Put(%v, %v) = %v, %v", p.e, p.ref, got, err)
					}
				}
				if effects, refs, err := All(l); err != api.OK || len(effects) != len(all) || len(refs) != len(all) {
					t.Errorf("All: %v, %v, %v", effects, refs, err)
				}
			}
		})
	}
	wait.Wait()
}
