package geom

import (
	"math"
	"slices"
	"testing"

	"sump/api"
)

// most is the greatest epoch that there may be.
const most = 1 << 40

// noPages are numbers of pages that no device has.
var noPages = []int{
	math.MinInt, math.MinInt + 64, -1 << 32, -1 << 20, -65, -64, -63, -1, 0, 1, 8, 32, 62, 63,
	1<<20 + 1, 1<<20 + 2, 1<<20 + 64, 1 << 21, 1 << 25, 1<<32 + 64, math.MaxInt - 1, math.MaxInt,
}

// somePages are numbers of pages that a device may have: all the least, the edges of a bank's pages, and the most.
func somePages() []int {
	var l []int
	for pages := 64; pages < 700; pages++ {
		l = append(l, pages)
	}
	for pages := 1024; pages <= 1<<20; pages *= 2 {
		l = append(l, pages-9, pages-8, pages-1, pages)
	}
	return append(l, 999, 12345, 777777, 1<<20-7, 1<<20-2)
}

// of is for pages that a device may have.
func of(t *testing.T, pages int) api.Geom {
	t.Helper()
	g, is := Of(pages)
	if !is {
		t.Fatalf("Of(%d): false", pages)
	}
	return g
}

// plainOf gives out words one by one where the chapter halves and divides.
func plainOf(pages int) api.Geom {
	g := api.Geom{Pages: pages}
	for 8*(g.Bank+1) <= pages {
		g.Bank++
	}
	room := 32*g.Bank - 2
	for 2*(g.Image+1) <= room {
		g.Image++
	}
	g.Log = room - g.Image
	g.Data = pages - 1 - g.Bank - g.Bank
	return g
}

// The numbers of the first page

func TestNumbersOfTheFirstPage(t *testing.T) {
	magic := 0
	for _, c := range []byte("sump") {
		magic = magic*256 + int(c)
	}
	if Magic != magic {
		t.Errorf("Magic is %x, want %x", Magic, magic)
	}
	if MagicAt != 0 || PagesAt != 1 || RootAt != 2 {
		t.Errorf("places %d, %d, %d: not the first words", MagicAt, PagesAt, RootAt)
	}
}

// P6.1

func TestOf(t *testing.T) {
	for _, want := range []api.Geom{
		{Pages: 64, Bank: 8, Image: 127, Log: 127, Data: 47}, // the chapter's example
		{Pages: 65, Bank: 8, Image: 127, Log: 127, Data: 48},
		{Pages: 71, Bank: 8, Image: 127, Log: 127, Data: 54},
		{Pages: 72, Bank: 9, Image: 143, Log: 143, Data: 53},
		{Pages: 79, Bank: 9, Image: 143, Log: 143, Data: 60},
		{Pages: 127, Bank: 15, Image: 239, Log: 239, Data: 96},
		{Pages: 128, Bank: 16, Image: 255, Log: 255, Data: 95},
		{Pages: 1000, Bank: 125, Image: 1999, Log: 1999, Data: 749},
		{Pages: 1<<20 - 1, Bank: 1<<17 - 1, Image: 1<<21 - 17, Log: 1<<21 - 17, Data: 786432},
		{Pages: 1 << 20, Bank: 1 << 17, Image: 1<<21 - 1, Log: 1<<21 - 1, Data: 786431},
	} {
		if g, is := Of(want.Pages); g != want || !is {
			t.Errorf("Of(%d) = %+v, %v, want %+v", want.Pages, g, is, want)
		}
	}
}

func TestOfByTheWords(t *testing.T) {
	for _, pages := range somePages() {
		if g, is := Of(pages); g != plainOf(pages) || !is {
			t.Errorf("Of(%d) = %+v, %v, want %+v", pages, g, is, plainOf(pages))
		}
	}
}

func TestOfPagesThatNoDeviceHas(t *testing.T) {
	for _, pages := range noPages {
		if g, is := Of(pages); g != (api.Geom{}) || is {
			t.Errorf("Of(%d) = %+v, %v", pages, g, is)
		}
	}
}

// There is a geom for just the pages from the least to the most.
func TestOfIsThereFromTheLeastToTheMost(t *testing.T) {
	count := 0
	for pages := -100; pages <= api.MaxPages+100; pages++ {
		g, is := Of(pages)
		if is != (pages >= 64 && pages <= 1048576) || is != (g.Pages == pages && pages != 0) {
			t.Fatalf("Of(%d) = %+v, %v", pages, g, is)
		}
		if is {
			count++
		}
	}
	if count != 1<<20-63 {
		t.Errorf("%d geoms", count)
	}
}

func TestWords(t *testing.T) {
	for _, c := range [][2]int{{64, 2048}, {65, 2080}, {100, 3200}, {1 << 20, 1 << 25}} {
		if n := Words(of(t, c[0])); n != c[1] {
			t.Errorf("Words of %d pages: %d, want %d", c[0], n, c[1])
		}
	}
	for _, pages := range []int{0, 1, 63, -1, 1<<20 + 1} { // whatever the other fields are
		for _, g := range []api.Geom{{Pages: pages}, {Pages: pages, Bank: 9, Image: 8, Log: 7, Data: 6}} {
			if n := Words(g); n != 32*pages {
				t.Errorf("Words(%+v) = %d", g, n)
			}
		}
	}
}

// P6.2

// notOne are banks that count as 0.
var notOne = []int{0, 2, 3, -1, -2, 8, 1<<32 + 1, math.MaxInt, math.MinInt, math.MinInt + 1}

func TestPlacesOfTheLeastDevice(t *testing.T) {
	g := of(t, 64)
	for _, c := range []struct {
		name      string
		got, want int
	}{
		{"BankAt 0", BankAt(g, 0), 32},
		{"ImageAt 0", ImageAt(g, 0), 34},
		{"LogAt 0", LogAt(g, 0), 161},
		{"BankAt 1", BankAt(g, 1), 288},
		{"ImageAt 1", ImageAt(g, 1), 290},
		{"LogAt 1", LogAt(g, 1), 417},
		{"PageAt 1", PageAt(g, 1), 544},
		{"PageAt 2", PageAt(g, 2), 576},
		{"PageAt 47", PageAt(g, 47), 2016},
	} {
		if c.got != c.want {
			t.Errorf("%s = %d, want %d", c.name, c.got, c.want)
		}
	}
}

func TestPlacesOfTheGreatestDevice(t *testing.T) {
	g := of(t, 1<<20)
	for _, c := range []struct {
		name      string
		got, want int
	}{
		{"BankAt 0", BankAt(g, 0), 32},
		{"LogAt 0", LogAt(g, 0), 33 + 1<<21},
		{"BankAt 1", BankAt(g, 1), 32 + 1<<22},
		{"ImageAt 1", ImageAt(g, 1), 34 + 1<<22},
		{"LogAt 1", LogAt(g, 1), 33 + 1<<22 + 1<<21},
		{"PageAt 1", PageAt(g, 1), 32 + 1<<23},
		{"the last PageAt", PageAt(g, g.Data), 1<<25 - 32},
	} {
		if c.got != c.want {
			t.Errorf("%s = %d, want %d", c.name, c.got, c.want)
		}
	}
}

func TestPlacesOfBanksByTheWords(t *testing.T) {
	for _, pages := range somePages() {
		g := of(t, pages)
		for k, first := range []int{32, 32 + 32*g.Bank} {
			if at := BankAt(g, k); at != first {
				t.Errorf("%d pages: BankAt(%d) = %d, want %d", pages, k, at, first)
			}
			if at := ImageAt(g, k); at != first+2 {
				t.Errorf("%d pages: ImageAt(%d) = %d, want %d", pages, k, at, first+2)
			}
			if at := LogAt(g, k); at != first+2+g.Image {
				t.Errorf("%d pages: LogAt(%d) = %d, want %d", pages, k, at, first+2+g.Image)
			}
		}
	}
}

func TestBankThatIsNotOneCountsAsNought(t *testing.T) {
	for _, pages := range []int{64, 71, 72, 1000, 1 << 20} {
		g := of(t, pages)
		for _, k := range notOne {
			if BankAt(g, k) != 32 || ImageAt(g, k) != 34 || LogAt(g, k) != 34+g.Image {
				t.Errorf("%d pages, bank %d: %d, %d, %d", pages, k, BankAt(g, k), ImageAt(g, k), LogAt(g, k))
			}
		}
	}
}

func TestPageAtByTheWords(t *testing.T) {
	for _, pages := range []int{64, 65, 71, 72, 100, 1000, 4097} {
		g := of(t, pages)
		want := 32 + 2*32*g.Bank
		for p := 1; p <= g.Data; p++ {
			if at := PageAt(g, p); at != want {
				t.Fatalf("%d pages: PageAt(%d) = %d, want %d", pages, p, at, want)
			}
			want += 32
		}
		if want != Words(g) {
			t.Errorf("%d pages: the data ends at %d of %d", pages, want, Words(g))
		}
	}
}

func TestPageThatIsNoneOfData(t *testing.T) {
	for _, pages := range somePages() {
		g := of(t, pages)
		for _, p := range []int{0, -1, -2, -g.Data, -2 * g.Bank, 1 - 2*g.Bank, g.Data + 1, g.Data + 2, g.Pages, 1 << 59, 1<<59 + 1, math.MaxInt, math.MinInt, math.MinInt + 1} {
			if at := PageAt(g, p); at != 0 {
				t.Errorf("%d pages: PageAt(%d) = %d", pages, p, at)
			}
		}
		if PageAt(g, 1) == 0 || PageAt(g, g.Data) == 0 {
			t.Errorf("%d pages: the first or the last page of data isn't there", pages)
		}
	}
}

// The places go by the fields that a geom has, whether Of tells it or not.
func TestPlacesOfGeomsThatOfDoesNotTell(t *testing.T) {
	g := api.Geom{Pages: 9, Bank: 3, Image: 5, Log: 70, Data: 2}
	if BankAt(g, 0) != 32 || ImageAt(g, 0) != 34 || LogAt(g, 0) != 39 {
		t.Errorf("bank 0: %d, %d, %d", BankAt(g, 0), ImageAt(g, 0), LogAt(g, 0))
	}
	if BankAt(g, 1) != 128 || ImageAt(g, 1) != 130 || LogAt(g, 1) != 135 {
		t.Errorf("bank 1: %d, %d, %d", BankAt(g, 1), ImageAt(g, 1), LogAt(g, 1))
	}
	if PageAt(g, 0) != 0 || PageAt(g, 1) != 224 || PageAt(g, 2) != 256 || PageAt(g, 3) != 0 {
		t.Errorf("pages: %d, %d, %d, %d", PageAt(g, 0), PageAt(g, 1), PageAt(g, 2), PageAt(g, 3))
	}
	zero := api.Geom{}
	if BankAt(zero, 0) != 32 || BankAt(zero, 1) != 32 || ImageAt(zero, 1) != 34 || LogAt(zero, 1) != 34 {
		t.Errorf("the zero geom: %d, %d, %d, %d", BankAt(zero, 0), BankAt(zero, 1), ImageAt(zero, 1), LogAt(zero, 1))
	}
	if PageAt(zero, 0) != 0 || PageAt(zero, 1) != 0 || Words(zero) != 0 {
		t.Errorf("the zero geom: %d, %d, %d", PageAt(zero, 0), PageAt(zero, 1), Words(zero))
	}
}

// Whatever the numbers are, each call ends, and tells the same once more.
func TestAnyNumbersEnd(t *testing.T) {
	edges := []int{math.MinInt, -1, 0, 1, 64, 1 << 20, 1 << 59, 1 << 62, math.MaxInt}
	tell := func(g api.Geom, n int) []int {
		return []int{BankAt(g, n), ImageAt(g, n), LogAt(g, n), PageAt(g, n), Words(g)}
	}
	for _, a := range edges {
		for _, b := range edges {
			for _, n := range edges {
				for _, g := range []api.Geom{
					{Pages: a, Bank: b, Image: a, Log: b, Data: a},
					{Pages: b, Bank: a, Image: a, Log: a, Data: b},
				} {
					if once, again := tell(g, n), tell(g, n); !slices.Equal(once, again) {
						t.Fatalf("%+v, %d: %v, then %v", g, n, once, again)
					}
				}
			}
		}
	}
}

// P6.3

func TestRoot(t *testing.T) {
	for _, c := range []struct {
		epoch, k int
		want     uint64
	}{
		{0, 0, 0},
		{0, 1, 1},
		{1, 0, 2},
		{1, 1, 3},
		{2, 0, 4},
		{1000, 1, 2001},
		{1 << 32, 0, 1 << 33},
		{1 << 39, 1, 1<<40 + 1},
		{most - 1, 0, 1<<41 - 2},
		{most - 1, 1, 1<<41 - 1},
		{most, 0, 1 << 41},
		{most, 1, 1<<41 + 1},
	} {
		if root := Root(c.epoch, c.k); root != c.want {
			t.Errorf("Root(%d, %d) = %d, want %d", c.epoch, c.k, root, c.want)
		}
	}
}

func TestRootOfABankThatIsNotOne(t *testing.T) {
	for _, epoch := range []int{0, 1, 77, most} {
		for _, k := range notOne {
			if root := Root(epoch, k); root != uint64(2*epoch) {
				t.Errorf("Root(%d, %d) = %d", epoch, k, root)
			}
		}
	}
}

// Such an epoch counts as 0; the bank is told all the same.
func TestRootOfAnEpochThatCanNotBe(t *testing.T) {
	for _, epoch := range []int{-1, -2, -most, math.MinInt, math.MinInt + 1, most + 1, most + 2, 2 * most, 1 << 62, 1<<62 + 1, math.MaxInt} {
		if root := Root(epoch, 1); root != 1 {
			t.Errorf("Root(%d, 1) = %d", epoch, root)
		}
		for _, k := range notOne {
			if root := Root(epoch, k); root != 0 {
				t.Errorf("Root(%d, %d) = %d", epoch, k, root)
			}
		}
	}
}

func TestEpoch(t *testing.T) {
	for _, c := range []struct {
		root     uint64
		epoch, k int
		is       bool
	}{
		{0, 0, 0, true},
		{1, 0, 1, true},
		{2, 1, 0, true},
		{3, 1, 1, true},
		{2001, 1000, 1, true},
		{1<<41 - 2, most - 1, 0, true},
		{1<<41 - 1, most - 1, 1, true},
		{1 << 41, most, 0, true},
		{1<<41 + 1, most, 1, true},
		{1<<41 + 2, 0, 0, false},
		{1<<41 + 3, 0, 0, false},
		{1 << 42, 0, 0, false},
		{1<<42 + 1, 0, 0, false},
		{1 << 63, 0, 0, false},
		{1<<63 + 1, 0, 0, false},
		{1<<63 + 2, 0, 0, false},
		{math.MaxUint64 - 1, 0, 0, false},
		{math.MaxUint64, 0, 0, false},
	} {
		if epoch, k, is := Epoch(c.root); epoch != c.epoch || k != c.k || is != c.is {
			t.Errorf("Epoch(%d) = %d, %d, %v, want %d, %d, %v", c.root, epoch, k, is, c.epoch, c.k, c.is)
		}
	}
}

func TestRootAndEpochThereAndBack(t *testing.T) {
	epochs := []int{0, 1, 2, 3, 1<<31 - 1, 1 << 31, 1 << 32, most - 2, most - 1, most}
	for epoch := 5; epoch < most; epoch = epoch*3 + 1 {
		epochs = append(epochs, epoch)
	}
	seen := map[uint64]bool{}
	for _, epoch := range epochs {
		for k := range 2 {
			root := Root(epoch, k)
			if e, bank, is := Epoch(root); e != epoch || bank != k || !is {
				t.Errorf("Epoch(Root(%d, %d)) = %d, %d, %v", epoch, k, e, bank, is)
			}
			seen[root] = true
		}
	}
	slices.Sort(epochs)
	if want := 2 * len(slices.Compact(epochs)); len(seen) != want {
		t.Errorf("%d roots, want %d", len(seen), want)
	}
}

// Of a word that is a root, Root tells that word; of all others there is nothing.
func TestEpochAndRootThereAndBack(t *testing.T) {
	word := uint64(88172645463325252)
	for n := range 20000 {
		word ^= word << 13
		word ^= word >> 7
		word ^= word << 17
		root := word >> (n % 64)
		epoch, k, is := Epoch(root)
		if is != (root <= 1<<41+1) {
			t.Fatalf("Epoch(%d): %v", root, is)
		}
		if is && Root(epoch, k) != root || !is && (epoch != 0 || k != 0) {
			t.Fatalf("Epoch(%d) = %d, %d", root, epoch, k)
		}
	}
}

// P6.4

// claim marks n words from at on as a part's, each of which must be within and no other's.
func claim(t *testing.T, owner []int, part, at, n int) {
	t.Helper()
	for i := at; i < at+n; i++ {
		if i < 0 || i >= len(owner) {
			t.Fatalf("%d words: part %d has word %d", len(owner), part, i)
		}
		if owner[i] != 0 {
			t.Fatalf("%d words: part %d has word %d, which is part %d's", len(owner), part, i, owner[i])
		}
		owner[i] = part
	}
}

// Each word of a device is claimed just once: those of the first page, of each bank's head, picture and log, and of each page of data.
func TestApart(t *testing.T) {
	for _, pages := range append(somePages()[:400], 1023, 1024, 4096, 1<<15, 1<<16+5) {
		g := of(t, pages)
		owner := make([]int, Words(g))
		claim(t, owner, 1, 0, 32)
		for k := range 2 {
			claim(t, owner, 2+k, BankAt(g, k), 2)
			claim(t, owner, 4+k, ImageAt(g, k), g.Image)
			claim(t, owner, 6+k, LogAt(g, k), g.Log)
		}
		for p := 1; p <= g.Data; p++ {
			claim(t, owner, 7+p, PageAt(g, p), 32)
		}
		if slices.Contains(owner, 0) {
			t.Errorf("%d pages: word %d is nobody's", pages, slices.Index(owner, 0))
		}
	}
}

// A bank's head, picture and log stand in its own pages, right behind each other.
func TestBanksKeepToTheirPages(t *testing.T) {
	for _, pages := range somePages() {
		g := of(t, pages)
		for k := range 2 {
			first, behind := BankAt(g, k), BankAt(g, k)+32*g.Bank
			if first%32 != 0 || ImageAt(g, k) != first+2 || LogAt(g, k) != ImageAt(g, k)+g.Image || LogAt(g, k)+g.Log != behind {
				t.Errorf("%d pages, bank %d: %d, %d, %d, behind it %d", pages, k, first, ImageAt(g, k), LogAt(g, k), behind)
			}
		}
		if BankAt(g, 0) != 32 || BankAt(g, 1) != 32+32*g.Bank || PageAt(g, 1) != 32+64*g.Bank {
			t.Errorf("%d pages: %d, %d, %d", pages, BankAt(g, 0), BankAt(g, 1), PageAt(g, 1))
		}
		if last := PageAt(g, g.Data); last+32 != Words(g) || last%32 != 0 {
			t.Errorf("%d pages: the last page is at %d of %d", pages, last, Words(g))
		}
		if MagicAt >= 32 || PagesAt >= 32 || RootAt >= 32 {
			t.Error("the first page's words aren't in it")
		}
	}
}
