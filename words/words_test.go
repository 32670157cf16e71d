package words

import (
	"bytes"
	"math"
	"slices"
	"strings"
	"testing"
)

// draw is a row of numbers that is the same each time.
func draw(seed uint64) func(below int) int {
	x := seed*2862933555777941757 + 88172645463325252
	return func(below int) int {
		x ^= x << 13
		x ^= x >> 7
		x ^= x << 17
		return int(x >> 20 % uint64(below))
	}
}

// drawBytes leans to the edges of a byte, so that noughts stand at the end of many.
func drawBytes(next func(below int) int, n int) []byte {
	b := make([]byte, n)
	for i := range b {
		switch next(3) {
		case 0:
			b[i] = 0
		case 1:
			b[i] = 255
		default:
			b[i] = byte(next(256))
		}
	}
	return b
}

// plainNeed counts words one by one till there is room for n bytes.
func plainNeed(n int) int {
	words := 0
	for words*8 < n {
		words++
	}
	return words
}

// plainPack puts words together by sums and products, each byte 256 times the one ahead.
func plainPack(b []byte) []uint64 {
	var l []uint64
	for len(b) > 0 {
		part := b[:min(8, len(b))]
		b = b[len(part):]
		word, times := uint64(0), uint64(1)
		for _, x := range part {
			word += uint64(x) * times
			times *= 256
		}
		l = append(l, word)
	}
	return l
}

// P5.1

func TestNeed(t *testing.T) {
	for n := range 300 {
		if Need(n) != plainNeed(n) {
			t.Errorf("Need(%d) = %d, want %d", n, Need(n), plainNeed(n))
		}
	}
	for _, c := range [][2]int{
		{math.MinInt, 0}, {math.MinInt + 1, 0}, {-9, 0}, {-8, 0}, {-7, 0}, {-1, 0}, {0, 0},
		{1, 1}, {7, 1}, {8, 1}, {9, 2}, {16, 2}, {17, 3}, {256, 32}, {257, 33}, {1024, 128},
		{1 << 62, 1 << 59}, {1<<62 + 1, 1<<59 + 1},
		{math.MaxInt - 7, 1<<60 - 1}, {math.MaxInt - 6, 1 << 60}, {math.MaxInt, 1 << 60},
	} {
		if Need(c[0]) != c[1] {
			t.Errorf("Need(%d) = %d, want %d", c[0], Need(c[0]), c[1])
		}
	}
}

func TestPack(t *testing.T) {
	for _, c := range []struct {
		b    []byte
		want []uint64
	}{
		{nil, nil},
		{[]byte{}, nil},
		{[]byte{1, 2}, []uint64{513}}, // the chapter's example
		{[]byte{0}, []uint64{0}},
		{[]byte{255}, []uint64{255}},
		{[]byte{1, 2, 3, 4, 5, 6, 7, 8}, []uint64{0x0807060504030201}},
		{[]byte{0, 0, 0, 0, 0, 0, 0, 128}, []uint64{1 << 63}},
		{[]byte{1, 2, 3, 4, 5, 6, 7, 8, 9}, []uint64{0x0807060504030201, 9}},
		{bytes.Repeat([]byte{0}, 17), []uint64{0, 0, 0}},
		{bytes.Repeat([]byte{255}, 17), []uint64{math.MaxUint64, math.MaxUint64, 255}},
	} {
		if got := Pack(c.b); !slices.Equal(got, c.want) {
			t.Errorf("Pack(%v) = %x, want %x", c.b, got, c.want)
		}
	}
}

func TestPackAndUnpackByTheWords(t *testing.T) {
	next := draw(5)
	for n := range 700 {
		b := drawBytes(next, n)
		l := Pack(b)
		if !slices.Equal(l, plainPack(b)) {
			t.Fatalf("Pack(%v) = %x", b, l)
		}
		if got, is := Unpack(l, n); !is || !bytes.Equal(got, b) {
			t.Fatalf("Unpack(Pack(%v)) = %v, %v", b, got, is)
		}
	}
}

func TestUnpack(t *testing.T) {
	for _, c := range []struct {
		l    []uint64
		n    int
		want []byte
		is   bool
	}{
		{nil, 0, nil, true},
		{[]uint64{}, 0, nil, true},
		{[]uint64{513}, 2, []byte{1, 2}, true},
		{[]uint64{513}, 3, []byte{1, 2, 0}, true},
		{[]uint64{513}, 8, []byte{1, 2, 0, 0, 0, 0, 0, 0}, true},
		{[]uint64{513}, 1, nil, false}, // 2 is too much
		{[]uint64{513}, 0, nil, false},
		{[]uint64{0}, 0, nil, false},
		{[]uint64{513}, 9, nil, false},
		{[]uint64{513, 0}, 2, nil, false},
		{[]uint64{513, 0}, 8, nil, false},
		{[]uint64{513, 0}, 9, []byte{1, 2, 0, 0, 0, 0, 0, 0, 0}, true},
		{[]uint64{math.MaxUint64}, 8, bytes.Repeat([]byte{255}, 8), true},
		{[]uint64{math.MaxUint64}, 7, nil, false},
		{[]uint64{1 << 63}, 7, nil, false},
		{[]uint64{1<<56 - 1}, 7, bytes.Repeat([]byte{255}, 7), true},
		{[]uint64{1 << 56}, 7, nil, false},
		{[]uint64{7, 256}, 9, nil, false},
		{[]uint64{256, 7}, 9, []byte{0, 1, 0, 0, 0, 0, 0, 0, 7}, true},
	} {
		if got, is := Unpack(c.l, c.n); is != c.is || !bytes.Equal(got, c.want) || !is && got != nil {
			t.Errorf("Unpack(%x, %d) = %v, %v, want %v, %v", c.l, c.n, got, is, c.want, c.is)
		}
	}
}

// No list is the Pack of fewer bytes than none, nor of more than there may be.
func TestUnpackOfBytesThatCanNotBe(t *testing.T) {
	for _, n := range []int{-1, -7, -8, math.MinInt, math.MinInt + 8, 1 << 62, math.MaxInt - 7, math.MaxInt} {
		for _, l := range [][]uint64{nil, {}, {0}, {513}, {0, 0}} {
			if got, is := Unpack(l, n); is || got != nil {
				t.Errorf("Unpack(%x, %d) = %v, %v", l, n, got, is)
			}
		}
	}
}

// Each bit behind the n bytes stands for a list that is none's Pack.
func TestUnpackOfBitsThatAreTooMany(t *testing.T) {
	for n := 1; n <= 24; n++ {
		b := drawBytes(draw(uint64(n)), n)
		for bit := range Need(n) * 64 {
			l := Pack(b)
			l[bit/64] ^= 1 << (bit % 64)
			got, is := Unpack(l, n)
			if is != (bit < n*8) {
				t.Fatalf("%d bytes, bit %d: %v", n, bit, is)
			}
			if is && !slices.Equal(Pack(got), l) || !is && got != nil {
				t.Fatalf("%d bytes, bit %d: %v", n, bit, got)
			}
		}
	}
}

// P5.2

func TestWriterHasNoneAtFirst(t *testing.T) {
	var w Writer
	if len(w.Words()) != 0 || len(new(Writer).Words()) != 0 {
		t.Error("there are words at first")
	}
	w.Num(4)
	if !slices.Equal(w.Words(), []uint64{4}) {
		t.Errorf("%v", w.Words())
	}
}

func TestWriterNum(t *testing.T) {
	var w Writer
	var want []uint64
	for _, c := range []struct {
		n    int
		word uint64
	}{
		{0, 0}, {1, 1}, {255, 255}, {1 << 62, 1 << 62}, {math.MaxInt, 1<<63 - 1},
		{-1, math.MaxUint64}, {-2, math.MaxUint64 - 1}, {math.MinInt, 1 << 63},
	} {
		w.Num(c.n)
		want = append(want, c.word)
		if !slices.Equal(w.Words(), want) {
			t.Errorf("Num(%d): %x, want %x", c.n, w.Words(), want)
		}
	}
}

func TestWriterText(t *testing.T) {
	var w Writer
	w.Num(9)
	w.Text("")
	w.Text("\x01\x02")
	w.Text("\x01\x02\x03\x04\x05\x06\x07\x08")
	w.Text("\x01\x02\x03\x04\x05\x06\x07\x08\xff")
	w.Text("\x00")
	w.Num(-1)
	want := []uint64{9, 0, 2, 513, 8, 0x0807060504030201, 9, 0x0807060504030201, 255, 1, 0, math.MaxUint64}
	if !slices.Equal(w.Words(), want) {
		t.Errorf("%x, want %x", w.Words(), want)
	}
}

// A text is its bytes, whatever they are as runes.
func TestWriterTextByBytes(t *testing.T) {
	for _, s := range []string{"a", "/ä/ö", "\xc3", "\xff\xfe\x00", "日本", strings.Repeat("x", 1000)} {
		var w Writer
		w.Text(s)
		want := append([]uint64{uint64(len(s))}, plainPack([]byte(s))...)
		if !slices.Equal(w.Words(), want) {
			t.Errorf("Text(%q): %x, want %x", s, w.Words(), want)
		}
	}
}

func TestWordsIsACopy(t *testing.T) {
	var w Writer
	w.Num(1)
	w.Text("ab")
	early := w.Words()
	again := w.Words()
	early[0] = 50
	_ = append(early[:1], 60, 70)
	if want := []uint64{1, 2, 'a' + 'b'<<8}; !slices.Equal(again, want) || !slices.Equal(w.Words(), want) {
		t.Errorf("answers share: %v, %v", again, w.Words())
	}
	full := w.Words()
	_ = append(full, 80)
	w.Num(3)
	if !slices.Equal(w.Words(), []uint64{1, 2, 'a' + 'b'<<8, 3}) || len(again) != 3 {
		t.Errorf("%v, %v", w.Words(), again)
	}
}

func TestWritersGoTheirOwnWays(t *testing.T) {
	var a, b Writer
	for n := range 20 {
		a.Num(n)
		b.Num(-n)
	}
	for n := range 20 {
		if a.Words()[n] != uint64(n) || b.Words()[n] != uint64(-n) {
			t.Fatalf("%v, %v", a.Words(), b.Words())
		}
	}
}

// P5.3

// expect holds a Reader against how many words it should have left, and whether it should be Bad.
func expect(t *testing.T, r *Reader, left int, bad bool) {
	t.Helper()
	if r.Left() != left || r.Bad() != bad {
		t.Errorf("%d left, bad %v, want %d, %v", r.Left(), r.Bad(), left, bad)
	}
}

// expectBad asks more than once, since a Bad one is so for good.
func expectBad(t *testing.T, r *Reader) {
	t.Helper()
	for range 3 {
		expect(t, r, 0, true)
		if n := r.Num(); n != 0 {
			t.Errorf("Num of a Bad one: %d", n)
		}
		for _, most := range []int{0, 5, -1, math.MaxInt, math.MinInt} {
			if s := r.Text(most); s != "" {
				t.Errorf("Text(%d) of a Bad one: %q", most, s)
			}
		}
	}
}

func TestReaderNum(t *testing.T) {
	r := New([]uint64{0, 7, 1<<62 - 1, 1 << 62, 5})
	expect(t, r, 5, false)
	for k, want := range []int{0, 7, 1<<62 - 1, 1 << 62, 5} {
		if n := r.Num(); n != want {
			t.Errorf("Num: %d, want %d", n, want)
		}
		expect(t, r, 4-k, false)
	}
	if n := r.Num(); n != 0 { // that all are read is no fault, but to go on is
		t.Errorf("Num behind the end: %d", n)
	}
	expectBad(t, r)
}

func TestReaderNumAboveTheMost(t *testing.T) {
	for _, word := range []uint64{1<<62 + 1, 1<<63 - 1, 1 << 63, 1<<63 + 5, math.MaxUint64} {
		r := New([]uint64{3, word, 4, 5})
		if n := r.Num(); n != 3 {
			t.Errorf("Num: %d", n)
		}
		expect(t, r, 3, false)
		if n := r.Num(); n != 0 {
			t.Errorf("Num of %x: %d", word, n)
		}
		expectBad(t, r)
	}
}

func TestReaderOfNoWords(t *testing.T) {
	for _, l := range [][]uint64{nil, {}} {
		r := New(l)
		expect(t, r, 0, false)
		if n := r.Num(); n != 0 {
			t.Errorf("Num: %d", n)
		}
		expectBad(t, r)
		r = New(l)
		if s := r.Text(9); s != "" {
			t.Errorf("Text: %q", s)
		}
		expectBad(t, r)
	}
}

func TestReaderText(t *testing.T) {
	all := []uint64{2, 513, 0, 9, 0x0807060504030201, 255, 1, 0, 6}
	r := New(all)
	for _, c := range []struct {
		most int
		want string
		left int
	}{
		{2, "\x01\x02", 7},
		{0, "", 6}, // a text of no bytes has its length alone
		{math.MaxInt, "\x01\x02\x03\x04\x05\x06\x07\x08\xff", 3},
		{1, "\x00", 1},
	} {
		if s := r.Text(c.most); s != c.want {
			t.Errorf("Text(%d): %q, want %q", c.most, s, c.want)
		}
		expect(t, r, c.left, false)
	}
	if n := r.Num(); n != 6 {
		t.Errorf("Num: %d", n)
	}
	expect(t, r, 0, false)
}

func TestReaderTextThatCanNotBe(t *testing.T) {
	for _, c := range []struct {
		name string
		most int
		l    []uint64
	}{
		{"no length", 9, nil},
		{"above the most", 1, []uint64{2, 513, 4}},
		{"above 0", 0, []uint64{1, 1, 4}},
		{"a most below 0", -1, []uint64{0, 4}},
		{"the least most", math.MinInt, []uint64{0, 4}},
		{"a most below 0, bytes", -1, []uint64{1, 1}},
		{"no bytes", 9, []uint64{2}},
		{"too few bytes", 9, []uint64{9, 513}},
		{"a byte too much", 9, []uint64{1, 513, 4}},
		{"the highest bit", 9, []uint64{7, 1 << 63}},
		{"the lowest bit behind", 9, []uint64{7, 1 << 56}},
		{"a byte too much in the last word", 99, []uint64{9, 513, 513}},
		{"a great length", math.MaxInt, []uint64{1 << 62, 513}},
		{"above 2^62", math.MaxInt, []uint64{1<<62 + 1, 513}},
		{"a length below 0", math.MaxInt, []uint64{math.MaxUint64, 513}},
		{"the lowest length", math.MaxInt, []uint64{1 << 63, 513}},
	} {
		r := New(append([]uint64{8}, c.l...))
		if n := r.Num(); n != 8 {
			t.Errorf("%s: Num: %d", c.name, n)
		}
		expect(t, r, len(c.l), false)
		if s := r.Text(c.most); s != "" {
			t.Errorf("%s: %q", c.name, s)
		}
		expectBad(t, r)
	}
}

// The most is one of bytes, and not of words.
func TestReaderTextAtItsMost(t *testing.T) {
	for n := range 40 {
		text := strings.Repeat("z", n)
		var w Writer
		w.Text(text)
		for most := range 50 {
			want := ""
			if n <= most {
				want = text
			}
			r := New(w.Words())
			if s := r.Text(most); s != want || r.Bad() != (n > most) {
				t.Errorf("%d bytes, most %d: %q, bad %v", n, most, s, r.Bad())
			}
		}
	}
}

// plainReader goes by the chapter's words.
type plainReader struct {
	l   []uint64
	at  int
	bad bool
}

func (p *plainReader) num() int {
	if p.bad || p.at == len(p.l) || p.l[p.at] > 1<<62 {
		p.bad = true
		return 0
	}
	p.at++
	return int(p.l[p.at-1])
}

func (p *plainReader) text(most int) string {
	n := p.num()
	if p.bad || n > most || n > 8*(len(p.l)-p.at) {
		p.bad = true
		return ""
	}
	var b []byte
	for k := range plainNeed(n) * 8 {
		x := byte(p.l[p.at+k/8] >> (k % 8 * 8))
		if k >= n && x != 0 {
			p.bad = true
			return ""
		}
		if k < n {
			b = append(b, x)
		}
	}
	p.at += plainNeed(n)
	return string(b)
}

func (p *plainReader) left() int {
	if p.bad {
		return 0
	}
	return len(p.l) - p.at
}

// drawWords has lengths, texts, and words that are no numbers, in a row of which a part can be read.
func drawWords(next func(below int) int, n int) []uint64 {
	l := make([]uint64, n)
	for i := range l {
		switch next(12) {
		case 0:
			l[i] = 1<<62 + uint64(next(3)) - 1
		case 1:
			l[i] = math.MaxUint64 - uint64(next(3))
		case 2, 3, 4:
			l[i] = uint64(next(1 << 16))
		default:
			l[i] = uint64(next(12))
		}
	}
	return l
}

func TestLongRowsByTheWords(t *testing.T) {
	for seed := range 20000 {
		next := draw(uint64(seed))
		l := drawWords(next, next(12))
		r, p := New(l), &plainReader{l: l}
		for step := range 12 {
			same := true
			if most := next(20) - 2; next(2) == 0 {
				same = r.Num() == p.num()
			} else {
				same = r.Text(most) == p.text(most)
			}
			if !same || r.Left() != p.left() || r.Bad() != p.bad {
				t.Fatalf("seed %d, step %d of %x: %d left, bad %v, want %d, %v", seed, step, l, r.Left(), r.Bad(), p.left(), p.bad)
			}
		}
	}
}

// P5.4

// part is what one call writes, and how many words behind it.
type part struct {
	isText bool
	n      int
	s      string
	words  int
}

func drawParts(next func(below int) int) []part {
	l := make([]part, next(12))
	for i := range l {
		switch next(4) {
		case 0:
			l[i] = part{n: next(1 << 40), words: 1}
		case 1:
			l[i] = part{n: 1<<62 - next(2), words: 1}
		default:
			s := string(drawBytes(next, next(40)))
			l[i] = part{isText: true, s: s, words: 1 + plainNeed(len(s))}
		}
	}
	return l
}

func written(parts []part) []uint64 {
	var w Writer
	for _, p := range parts {
		if p.isText {
			w.Text(p.s)
		} else {
			w.Num(p.n)
		}
	}
	return w.Words()
}

// reads tells whether r reads what p wrote.
func (p part) reads(r *Reader) bool {
	if p.isText {
		return r.Text(len(p.s)) == p.s && !r.Bad()
	}
	return r.Num() == p.n && !r.Bad()
}

func TestThereAndBack(t *testing.T) {
	for seed := range 2000 {
		parts := drawParts(draw(uint64(seed)))
		l := written(parts)
		r, left := New(l), len(l)
		for k, p := range parts {
			left -= p.words
			if !p.reads(r) || r.Left() != left {
				t.Fatalf("seed %d, part %d of %#v: %d left, bad %v", seed, k, parts, r.Left(), r.Bad())
			}
		}
		expect(t, r, 0, false)
	}
}

// What was cut off is missed where it should be, and not ahead of that.
func TestThereAndBackOfABeginning(t *testing.T) {
	for seed := range 200 {
		parts := drawParts(draw(uint64(seed) + 3000))
		l := written(parts)
		for n := range l {
			r, end := New(l[:n]), 0
			for k, p := range parts {
				end += p.words
				if p.reads(r) != (end <= n) {
					t.Fatalf("seed %d, %d of %d words, part %d of %#v", seed, n, len(l), k, parts)
				}
			}
			expectBad(t, r)
		}
	}
}

// Below 0 is above 2^62 as 64 bits: it is written, but not read.
func TestNumbersThatAreWrittenButNotRead(t *testing.T) {
	for _, n := range []int{-1, -1 << 40, math.MinInt, math.MaxInt, 1<<62 + 1} {
		var w Writer
		w.Num(n)
		w.Num(3)
		if len(w.Words()) != 2 {
			t.Errorf("Num(%d): %x", n, w.Words())
		}
		r := New(w.Words())
		if got := r.Num(); got != 0 {
			t.Errorf("%d is read as %d", n, got)
		}
		expectBad(t, r)
	}
}

func TestNilOnes(t *testing.T) {
	var w *Writer
	for range 3 {
		w.Num(4)
		w.Text("")
		w.Text("abc")
		if len(w.Words()) != 0 {
			t.Errorf("%v", w.Words())
		}
	}
	var r *Reader
	expectBad(t, r)
	if r.Text(4) != "" {
		t.Error("there is a text")
	}
	expectBad(t, r)
}

// A Reader that nobody made isn't nil: it has no words, and is Bad once more are asked for.
func TestReaderThatNobodyMade(t *testing.T) {
	var a, b Reader
	expect(t, &a, 0, false)
	if n := a.Num(); n != 0 {
		t.Errorf("Num: %d", n)
	}
	expectBad(t, &a)
	if s := b.Text(3); s != "" {
		t.Errorf("Text: %q", s)
	}
	expectBad(t, &b)
}

// P5.1 to P5.4, by the rules that hold everywhere

func TestPackAndUnpackShareNothing(t *testing.T) {
	b := []byte{1, 2, 3, 4, 5, 6, 7, 8, 9}
	l := Pack(b[:2])
	if !slices.Equal(l, []uint64{513}) || !slices.Equal(b, []byte{1, 2, 3, 4, 5, 6, 7, 8, 9}) {
		t.Errorf("Pack: %v of %v", l, b)
	}
	b[0] = 50
	if l[0] != 513 {
		t.Errorf("the answer changes: %v", l)
	}
	whole := []uint64{513, 4}
	got, is := Unpack(whole[:1], 2)
	if !is || !slices.Equal(got, []byte{1, 2}) {
		t.Errorf("Unpack: %v, %v", got, is)
	}
	got[0] = 9
	_ = append(got, 8)
	again, _ := Unpack(whole[:1], 2)
	whole[0] = 7
	if !slices.Equal(again, []byte{1, 2}) || !slices.Equal(whole, []uint64{7, 4}) {
		t.Errorf("%v, %v", again, whole)
	}
}

func TestReaderKeepsNoListOfOthers(t *testing.T) {
	l := []uint64{2, 513, 7, 1, 1, 9}
	r, other := New(l[:3]), New(l)
	if s := r.Text(2); s != "\x01\x02" {
		t.Errorf("Text: %q", s)
	}
	for i := range l {
		l[i] = math.MaxUint64
	}
	if n := r.Num(); n != 7 {
		t.Errorf("the list that was given plays a part: %d", n)
	}
	expect(t, r, 0, false)
	r.Num() // what lies behind the length isn't read
	expectBad(t, r)
	expect(t, other, 6, false)
	if s := other.Text(2); s != "\x01\x02" || other.Num() != 7 || other.Text(1) != "\x01" || other.Num() != 9 {
		t.Errorf("the other one: %q", s)
	}
}

func TestReaderChangesNothing(t *testing.T) {
	l := []uint64{2, 513, 7, math.MaxUint64, 5}
	want := slices.Clone(l)
	r := New(l)
	r.Text(9)
	r.Num()
	r.Num()
	expectBad(t, r)
	if !slices.Equal(l, want) {
		t.Errorf("changed to %v", l)
	}
}
