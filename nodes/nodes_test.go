package nodes

import (
	"math"
	"math/rand"
	"slices"
	"testing"

	"understudy/api"
	"understudy/disk"
	"understudy/leaf"
	"understudy/pool"
	"understudy/tally"
)

// entries: of keys and pages, by turns.
func entries(l ...int) []api.Entry {
	var x []api.Entry
	for i := 0; i < len(l); i += 2 {
		x = append(x, api.Entry{Key: l[i], Page: l[i+1]})
	}
	return x
}

func data(c byte) api.Node { return api.Node{Kind: api.KindData, Block: api.Block{c, 15: ^c}} }

func leafOf(l ...int) api.Node { return api.Node{Kind: api.KindLeaf, Entries: entries(l...)} }

func innerOf(l ...int) api.Node { return api.Node{Kind: api.KindInner, Entries: entries(l...)} }

// fresh: a store of so many pages, and its disk.
func fresh(size int) (*Store, *disk.Disk) {
	d := disk.New(size + 4)
	return New(d, pool.New(size)), d
}

func made(t *testing.T, s *Store, n api.Node) int {
	t.Helper()
	page, e := s.Make(n)
	if e != api.OK {
		t.Fatalf("Make of %v: %d, %d", n, page, e)
	}
	return page
}

// rooted: a node that is made, and held as a root.
func rooted(t *testing.T, s *Store, n api.Node) int {
	t.Helper()
	page := made(t, s, n)
	wantHold(t, s, page, api.OK)
	return page
}

// full: a store with no page free; page 0 is a block that is held once.
func full(t *testing.T) (*Store, *disk.Disk) {
	t.Helper()
	s, d := fresh(3)
	for i := range byte(3) {
		rooted(t, s, data(i))
	}
	return s, d
}

// heldOften: page 0 is a block that is held so often.
func heldOften(t *testing.T, size, times int) (*Store, *disk.Disk) {
	t.Helper()
	s, d := fresh(size)
	made(t, s, data(1))
	for range times {
		wantHold(t, s, 0, api.OK)
	}
	return s, d
}

// absent: numbers of pages that a store of that size hasn't.
func absent(size int) []int {
	return []int{-1, -2, -3, -4, -5, size, size + 1, size + 4, 240, 241, 244, 255, 256, 1 << 32, 1<<32 + 1,
		math.MinInt, math.MinInt + 1, math.MaxInt, math.MaxInt - 3, math.MaxInt - 4}
}

func wantMake(t *testing.T, s *Store, n api.Node, want int) {
	t.Helper()
	if page, e := s.Make(n); page != want || e != api.OK {
		t.Errorf("Make of %v: %d, %d, not %d", n, page, e, want)
	}
}

func wantNoMake(t *testing.T, s *Store, n api.Node, want api.Errno) {
	t.Helper()
	if page, e := s.Make(n); page != api.None || e != want {
		t.Errorf("Make of %v: %d, %d, not None, %d", n, page, e, want)
	}
}

func wantGet(t *testing.T, s *Store, page int, want api.Node) {
	t.Helper()
	if n, e := s.Get(page); !leaf.Same(n, want) || e != api.OK {
		t.Errorf("Get of %d: %v, %d, not %v", page, n, e, want)
	}
}

func wantNoGet(t *testing.T, s *Store, page int, want api.Errno) {
	t.Helper()
	if n, e := s.Get(page); !leaf.Same(n, api.Node{}) || e != want {
		t.Errorf("Get of %d: %v, %d, not %d", page, n, e, want)
	}
}

func wantHold(t *testing.T, s *Store, page int, want api.Errno) {
	t.Helper()
	if e := s.Hold(page); e != want {
		t.Errorf("Hold of %d: %d, not %d", page, e, want)
	}
}

func wantDrop(t *testing.T, s *Store, page int, want api.Errno) {
	t.Helper()
	if e := s.Drop(page); e != want {
		t.Errorf("Drop of %d: %d, not %d", page, e, want)
	}
}

func wantReach(t *testing.T, s *Store, want []int, roots ...int) {
	t.Helper()
	if l, e := s.Reach(roots...); !slices.Equal(l, want) || e != api.OK {
		t.Errorf("Reach of %v: %v, %d, not %v", roots, l, e, want)
	}
}

func wantNoReach(t *testing.T, s *Store, want api.Errno, roots ...int) {
	t.Helper()
	if l, e := s.Reach(roots...); len(l) != 0 || e != want {
		t.Errorf("Reach of %v: %v, %d, not %d", roots, l, e, want)
	}
}

// wantCounts: those of the pages from 0 on, and 0 of all others.
func wantCounts(t *testing.T, s *Store, want ...byte) {
	t.Helper()
	var c tally.Counts
	copy(c[:], want)
	if got := s.Pool().Counts(); got != c {
		t.Errorf("counts: %v, not %v", got[:max(len(want), s.Pool().Size())], want)
	}
}

func wantFree(t *testing.T, s *Store, want int) {
	t.Helper()
	if n := s.Pool().Free(); n != want {
		t.Errorf("%d pages are free, not %d", n, want)
	}
}

// view is all that a pool tells, beside what Clones of it would do.
type view struct {
	size, free        int
	counts            tally.Counts
	fresh             [api.MaxPool]bool
	taken             [api.MaxPool]int
	tidied, committed int
	givenUp           [api.MaxPool]int
}

func seen(p *pool.Pool) view {
	v := view{size: p.Size(), free: p.Free(), counts: p.Counts(), taken: takes(p.Clone())}
	for i := range v.fresh {
		v.fresh[i] = p.Fresh(i)
	}
	k := p.Clone()
	k.Tidy()
	v.tidied = k.Free()
	k = p.Clone()
	k.Commit()
	v.committed = k.Free()
	// What is given up tells whether it was fresh or young.
	k = p.Clone()
	for i := range v.fresh {
		for gone, e := false, api.OK; !gone && e == api.OK; {
			gone, e = k.Drop(i)
		}
	}
	v.givenUp = takes(k)
	return v
}

func takes(p *pool.Pool) [api.MaxPool]int {
	var l [api.MaxPool]int
	for i := range l {
		n, e := p.Take()
		l[i] = n
		if e != api.OK {
			l[i] = -int(e)
		}
	}
	return l
}

// wantStays: what is done changes neither the pool nor the disk.
func wantStays(t *testing.T, s *Store, d *disk.Disk, do func()) {
	t.Helper()
	was, writes := seen(s.Pool()), d.Pending()
	do()
	if seen(s.Pool()) != was {
		t.Error("the pool was changed")
	}
	if !slices.Equal(d.Pending(), writes) {
		t.Error("the disk was written:", d.Pending(), writes)
	}
}

// put: whatever one likes stands on a page, beside the store.
func put(t *testing.T, d *disk.Disk, page int, n api.Node) {
	t.Helper()
	p, e := leaf.Page(n)
	if e != api.OK || d.Write(page+4, p) != api.OK {
		t.Fatal(page, n, e)
	}
}

func TestLimits(t *testing.T) {
	if api.FirstPage != 4 || api.MaxPool != 240 || api.MaxPages != 244 || api.MaxCount != 255 || api.None != -1 {
		t.Error(api.FirstPage, api.MaxPool, api.MaxPages, api.MaxCount, api.None)
	}
	if api.ErrPage != 41 || api.ErrPower != 42 || api.ErrFault != 43 || api.ErrSpace != 71 || api.ErrCount != 72 || api.ErrFree != 73 || api.ErrNode != 81 {
		t.Error("an error has another number")
	}
}

func TestExample(t *testing.T) {
	s, _ := fresh(8)
	block := made(t, s, data(1))
	root := rooted(t, s, leafOf(3, block))
	wantFree(t, s, 6)
	wantReach(t, s, []int{0, 1}, root)
	wantDrop(t, s, root, api.OK)
	wantFree(t, s, 8)
	wantCounts(t, s)
	wantNoGet(t, s, block, api.ErrFree)
	wantNoGet(t, s, root, api.ErrFree)
}

func TestSize(t *testing.T) {
	for pages, want := range map[int]int{
		math.MinInt: 0, math.MinInt + 1: 0, math.MinInt + 3: 0, math.MinInt + 4: 0, -240: 0, -4: 0, -1: 0, 0: 0, 1: 0, 2: 0, 3: 0, 4: 0,
		5: 1, 6: 2, 12: 8, 16: 12, 128: 124, 240: 236, 242: 238, 243: 239,
		244: 240, 245: 240, 248: 240, 256: 240, 1 << 32: 240, math.MaxInt - 4: 240, math.MaxInt - 1: 240, math.MaxInt: 240,
	} {
		if n := Size(pages); n != want {
			t.Errorf("Size(%d): %d, not %d", pages, n, want)
		}
	}
}

func TestNewUsesBoth(t *testing.T) {
	d, p := disk.New(12), pool.New(8)
	s := New(d, p)
	if s.Pool() != p || len(d.Pending()) != 0 || p.Free() != 8 {
		t.Error("New did more than it should")
	}
	made(t, s, data(1))
	if p.Free() != 7 || !p.Fresh(0) || !slices.Equal(d.Pending(), []int{4}) {
		t.Error("not that pool, or not that disk:", p.Free(), d.Pending())
	}
	// What is done to the pool is done to the store's.
	if i, e := s.Pool().Take(); i != 1 || e != api.OK {
		t.Error(i, e)
	}
	wantMake(t, s, data(2), 2)
	p.Commit()
	wantNoGet(t, s, 2, api.ErrFree)
	wantMake(t, s, data(3), 0)
}

// TestPoolStaysItsOwn: the pool that New was given is the store's behind Undo, too.
func TestPoolStaysItsOwn(t *testing.T) {
	d, p := disk.New(12), pool.New(8)
	s := New(d, p)
	mark := s.Mark()
	made(t, s, data(1))
	s.Undo(mark)
	if s.Pool() != p || p.Free() != 8 {
		t.Error("another pool:", p.Free())
	}
	rooted(t, s, data(2))
	if p.Count(0) != 1 || mark.Count(0) != 0 {
		t.Error(p.Count(0), mark.Count(0))
	}
}

func TestNoPages(t *testing.T) {
	for pages := -1; pages <= 4; pages++ {
		d := disk.New(pages)
		s := New(d, pool.New(Size(pages)))
		wantStays(t, s, d, func() {
			wantNoMake(t, s, data(1), api.ErrSpace)
			wantNoMake(t, s, leafOf(1, 0), api.ErrFree)
			wantNoMake(t, s, leafOf(), api.ErrNode)
			for _, page := range append(absent(0), 1, 2, 3) {
				wantNoGet(t, s, page, api.ErrFree)
				wantHold(t, s, page, api.ErrFree)
				wantDrop(t, s, page, api.ErrFree)
			}
			wantReach(t, s, nil)
			wantReach(t, s, nil, api.None)
			wantNoReach(t, s, api.ErrFree, 0)
			s.Undo(s.Mark())
		})
	}
}

// TestGreatest: all pages of the greatest disk.
func TestGreatest(t *testing.T) {
	d := disk.New(244)
	s := New(d, pool.New(Size(244)))
	for i := range 240 {
		wantMake(t, s, data(byte(i)), i)
		wantHold(t, s, i, api.OK)
	}
	wantNoMake(t, s, data(1), api.ErrSpace)
	for i := range 240 {
		wantGet(t, s, i, data(byte(i)))
	}
	if l, e := s.Reach(239, 0); !slices.Equal(l, []int{0, 239}) || e != api.OK {
		t.Error(l, e)
	}
	wantDrop(t, s, 239, api.OK)
	wantMake(t, s, leafOf(0, 0, 63, 238), 239)
	wantGet(t, s, 239, leafOf(0, 0, 63, 238))
}

// TestMakeStepByStep: a block, a leaf of it, an inner node of that.
func TestMakeStepByStep(t *testing.T) {
	s, d := fresh(8)
	wantMake(t, s, data(7), 0)
	wantCounts(t, s)
	wantFree(t, s, 7)
	wantGet(t, s, 0, data(7))

	wantMake(t, s, leafOf(9, 0), 1)
	wantCounts(t, s, 1)
	wantFree(t, s, 6)
	wantGet(t, s, 1, leafOf(9, 0))

	wantMake(t, s, innerOf(9, 1), 2)
	wantCounts(t, s, 1, 1)
	wantFree(t, s, 5)
	wantGet(t, s, 2, innerOf(9, 1))
	wantGet(t, s, 1, leafOf(9, 0))
	wantGet(t, s, 0, data(7))

	if !slices.Equal(d.Pending(), []int{4, 5, 6}) {
		t.Error("pages of the disk that were written:", d.Pending())
	}
	for i, n := range []api.Node{data(7), leafOf(9, 0), innerOf(9, 1)} {
		want, _ := leaf.Page(n)
		if p, e := d.Read(i + 4); p != want || e != api.OK {
			t.Errorf("page %d of the disk: %v, %d", i+4, p, e)
		}
		if !s.Pool().Fresh(i) {
			t.Errorf("page %d isn't fresh", i)
		}
	}
	for i := range 4 {
		if p, e := d.Read(i); p != (api.Page{}) || e != api.OK {
			t.Errorf("page %d of the disk isn't the store's", i)
		}
	}
}

func TestMakeManyKinds(t *testing.T) {
	s, _ := fresh(20)
	for i := range byte(6) {
		made(t, s, data(i))
	}
	for i, n := range []api.Node{
		leafOf(0, 0, 63, 5), leafOf(1, 0, 2, 1, 3, 2, 4, 3, 5, 4, 6, 5), innerOf(63, 3), {Kind: api.KindData}, {Kind: api.KindData, Entries: []api.Entry{}},
		{Kind: api.KindData, Block: api.Block{255, 255, 0, 1}}, innerOf(5, 7, 6, 6), leafOf(5, 7, 6, 6),
	} {
		wantMake(t, s, n, 6+i)
		wantGet(t, s, 6+i, n)
	}
	wantCounts(t, s, 2, 1, 1, 2, 1, 2, 2, 2)
}

// TestMakeTakesTheLeast: pages that were given up are taken again, and what stands there is another node.
func TestMakeTakesTheLeast(t *testing.T) {
	s, _ := fresh(5)
	for i := range byte(4) {
		rooted(t, s, data(i))
	}
	wantDrop(t, s, 2, api.OK)
	wantDrop(t, s, 1, api.OK)
	wantMake(t, s, data(10), 1)
	wantMake(t, s, data(20), 2)
	wantMake(t, s, data(30), 4)
	wantGet(t, s, 1, data(10))
	wantGet(t, s, 2, data(20))
	wantGet(t, s, 0, data(0))
	wantGet(t, s, 3, data(3))
}

// TestMakeHoldsTwins: a child that is among the entries twice is held twice.
func TestMakeHoldsTwins(t *testing.T) {
	s, _ := fresh(8)
	a, b := made(t, s, data(1)), made(t, s, data(2))
	n := leafOf(1, a, 2, b, 3, a, 60, a)
	root := rooted(t, s, n)
	wantCounts(t, s, 3, 1, 1)
	wantGet(t, s, root, n)
	wantReach(t, s, []int{a, b, root}, root)
	wantDrop(t, s, root, api.OK)
	wantCounts(t, s)
	wantFree(t, s, 8)
}

// wrongOnes: nodes that aren't right.
func wrongOnes() []api.Node {
	l := []api.Node{{}, {Block: api.Block{1}}, leafOf(), innerOf(), {Kind: api.KindData, Entries: entries(1, 0)}}
	for _, kind := range []int{-1, 0, 4, 5, 255, 256, 257, 258, math.MinInt, math.MaxInt} {
		l = append(l, api.Node{Kind: kind}, api.Node{Kind: kind, Block: api.Block{1}}, api.Node{Kind: kind, Entries: entries(1, 0)})
	}
	for _, kind := range []int{api.KindLeaf, api.KindInner} {
		l = append(l, api.Node{Kind: kind, Block: api.Block{15: 1}, Entries: entries(1, 0)})
		for _, x := range [][]api.Entry{
			{}, entries(0, 0, 1, 0, 2, 0, 3, 0, 4, 0, 5, 0, 6, 0), entries(1, 0, 1, 0), entries(2, 0, 1, 0), entries(-1, 0), entries(64, 0),
			entries(1, -1), entries(1, 240), entries(1, 256), entries(1, 0, 2, 240), entries(1, math.MinInt), entries(1, math.MaxInt), entries(math.MaxInt, 0),
		} {
			l = append(l, api.Node{Kind: kind, Entries: x})
		}
	}
	return l
}

func TestMakeNotRight(t *testing.T) {
	s, d := fresh(4)
	rooted(t, s, data(1))
	fullOne, fullDisk := full(t)
	down, downDisk := fresh(4)
	rooted(t, down, data(1))
	downDisk.Cut(0)
	for _, n := range wrongOnes() {
		wantStays(t, s, d, func() { wantNoMake(t, s, n, api.ErrNode) })
		wantStays(t, fullOne, fullDisk, func() { wantNoMake(t, fullOne, n, api.ErrNode) })
		wantStays(t, down, downDisk, func() { wantNoMake(t, down, n, api.ErrNode) })
	}
	if downDisk.Down() {
		t.Error("a node that isn't right was written")
	}
	// That the node isn't right comes ahead of a child that isn't there.
	wantNoMake(t, s, leafOf(1, 0, 1, 3), api.ErrNode)
	wantNoMake(t, s, leafOf(2, 3, 1, 3), api.ErrNode)
}

func TestMakeOfChildrenThatArent(t *testing.T) {
	s, d := fresh(6)
	for i := range byte(3) {
		rooted(t, s, data(i))
	}
	s.Pool().Commit()
	made(t, s, data(3))       // fresh, never held
	wantDrop(t, s, 1, api.OK) // it goes
	wantHold(t, s, 2, api.OK) // twice
	for _, kind := range []int{api.KindLeaf, api.KindInner} {
		for _, l := range [][]int{
			{5, 1}, {5, 4}, {5, 5}, {5, 6}, {5, 7}, {5, 10}, {5, 239},
			{1, 0, 2, 1}, {1, 1, 2, 0}, {1, 0, 2, 2, 3, 3, 4, 2, 5, 0, 6, 4}, {1, 0, 2, 4, 3, 2}, {1, 5, 2, 4}, {1, 6, 2, 7},
		} {
			n := api.Node{Kind: kind, Entries: entries(l...)}
			wantStays(t, s, d, func() { wantNoMake(t, s, n, api.ErrFree) })
		}
	}
	wantMake(t, s, leafOf(1, 0, 2, 2, 3, 3), 4)
	wantCounts(t, s, 2, 0, 3, 1)

	// Spent pages aren't there either; young ones are, held or not.
	s.Mark()
	wantMake(t, s, innerOf(1, 4), 5)
	wantDrop(t, s, 5, api.OK) // with page 4, of which it was the one parent
	wantCounts(t, s, 1, 0, 2)
	for _, page := range []int{3, 4, 5} {
		wantStays(t, s, d, func() { wantNoMake(t, s, leafOf(1, page), api.ErrFree) })
	}
}

func TestMakeOfYoungChildren(t *testing.T) {
	s, _ := fresh(6)
	block := made(t, s, data(1))
	s.Mark()
	s.Mark()
	wantGet(t, s, block, data(1))
	wantMake(t, s, leafOf(1, block), 1)
	wantCounts(t, s, 1)
}

// TestMakeErrFreeComesFirst: ahead of a pool that is full, and of a disk that is down.
func TestMakeErrFreeComesFirst(t *testing.T) {
	s, d := full(t)
	s.Pool().Commit()
	wantDrop(t, s, 1, api.OK)
	wantFree(t, s, 0)
	wantNoMake(t, s, leafOf(1, 1), api.ErrFree)
	wantNoMake(t, s, leafOf(1, 0, 2, 1), api.ErrFree)
	wantNoMake(t, s, leafOf(1, 3), api.ErrFree)
	wantNoMake(t, s, leafOf(1, 0), api.ErrSpace)
	s.Pool().Commit()
	d.Cut(0)
	wantNoMake(t, s, leafOf(1, 1), api.ErrFree)
	if d.Down() {
		t.Error("something was written")
	}
}

func TestMakeNoSpace(t *testing.T) {
	s, d := full(t)
	wantStays(t, s, d, func() {
		wantNoMake(t, s, data(9), api.ErrSpace)
		wantNoMake(t, s, leafOf(1, 0, 2, 1), api.ErrSpace)
		wantNoMake(t, s, innerOf(1, 0), api.ErrSpace)
		// Ahead of the disk's error: nothing is written.
		d.Cut(0)
		wantNoMake(t, s, data(9), api.ErrSpace)
		if d.Down() {
			t.Error("something was written")
		}
	})
	d.Cut(-1)
	wantDrop(t, s, 2, api.OK)
	wantMake(t, s, leafOf(1, 0, 2, 1), 2)
}

// TestMakeNoSpaceAheadOfCount: a child that can't be held more often isn't tried.
func TestMakeNoSpaceAheadOfCount(t *testing.T) {
	s, d := heldOften(t, 2, 255)
	rooted(t, s, data(2))
	wantStays(t, s, d, func() { wantNoMake(t, s, leafOf(1, 0), api.ErrSpace) })
}

func TestMakeWithoutPower(t *testing.T) {
	s, d := heldOften(t, 6, 255)
	b := rooted(t, s, data(2))
	mark := s.Mark()
	d.Cut(0)
	// Power comes ahead of the child that is held too often; the page is taken, no child is held.
	wantNoMake(t, s, leafOf(1, b, 2, 0), api.ErrPower)
	wantCounts(t, s, 255, 1)
	wantFree(t, s, 3)
	if !s.Pool().Fresh(2) || !d.Down() || !slices.Equal(d.Pending(), []int{4, 5}) {
		t.Error(s.Pool().Fresh(2), d.Down(), d.Pending())
	}
	wantNoGet(t, s, 2, api.ErrNode) // zeros stand there
	// It can be read all the same.
	wantGet(t, s, b, data(2))
	wantReach(t, s, []int{0, b}, b, 0)
	wantNoMake(t, s, data(3), api.ErrPower)
	wantFree(t, s, 2)
	s.Undo(mark)
	if seen(s.Pool()) != seen(mark) {
		t.Error("Undo left something")
	}
	wantFree(t, s, 4)
	d.Crash(255, 255)
	wantMake(t, s, leafOf(1, b), 2)
}

func TestMakeHeldTooOften(t *testing.T) {
	s, d := heldOften(t, 8, 255)
	a, b := rooted(t, s, data(2)), rooted(t, s, data(3))
	mark := s.Mark()
	n := leafOf(1, a, 2, 0, 3, b)
	wantNoMake(t, s, n, api.ErrCount)
	// What was done is done: the page is taken and written, the first child is held, the last one isn't.
	wantCounts(t, s, 255, 2, 1)
	wantFree(t, s, 4)
	if !s.Pool().Fresh(3) || !slices.Equal(d.Pending(), []int{4, 5, 6, 7}) {
		t.Error(s.Pool().Fresh(3), d.Pending())
	}
	wantGet(t, s, 3, n)
	s.Undo(mark)
	if seen(s.Pool()) != seen(mark) {
		t.Error("Undo left something")
	}
	wantCounts(t, s, 255, 1, 1)
	wantFree(t, s, 5)
	wantNoGet(t, s, 3, api.ErrFree)
}

// TestMakeTwinsHeldTooOften: the same child may be held once more, but not twice.
func TestMakeTwinsHeldTooOften(t *testing.T) {
	s, _ := heldOften(t, 8, 254)
	wantNoMake(t, s, leafOf(1, 0, 2, 0), api.ErrCount)
	wantCounts(t, s, 255)
	wantHold(t, s, 0, api.ErrCount)
	wantDrop(t, s, 0, api.OK)
	wantMake(t, s, leafOf(1, 0), 2)
	wantCounts(t, s, 255)
}

// TestPoolBeyondTheDisk: a pool of more pages than the disk has for it.
func TestPoolBeyondTheDisk(t *testing.T) {
	s := New(disk.New(5), pool.New(8))
	wantMake(t, s, data(1), 0)
	wantNoMake(t, s, leafOf(1, 0), api.ErrPage)
	wantCounts(t, s)
	wantFree(t, s, 6)
	wantNoGet(t, s, 1, api.ErrPage)
	wantNoReach(t, s, api.ErrPage, 0, 1)
	wantHold(t, s, 1, api.OK)
	wantDrop(t, s, 1, api.ErrPage)
	wantFree(t, s, 7)
	wantGet(t, s, 0, data(1))
}

// TestNotHeld: Get, Hold and Drop of pages that there aren't, or that nobody has.
func TestNotHeld(t *testing.T) {
	s, d := fresh(8)
	for i := range byte(6) {
		rooted(t, s, data(i))
	}
	s.Pool().Commit()
	wantDrop(t, s, 1, api.OK) // it goes
	made(t, s, data(9))
	s.Mark()
	wantDrop(t, s, 6, api.OK) // spent
	made(t, s, data(9))
	wantDrop(t, s, 7, api.OK) // free, though its node stands there
	d.Spoil(4+7, true)        // and can't be read
	for _, page := range append(absent(8), 1, 6, 7) {
		wantStays(t, s, d, func() {
			wantNoGet(t, s, page, api.ErrFree)
			wantHold(t, s, page, api.ErrFree)
			wantDrop(t, s, page, api.ErrFree)
			if page != api.None {
				wantNoReach(t, s, api.ErrFree, page)
				wantNoReach(t, s, api.ErrFree, 0, page)
				wantNoReach(t, s, api.ErrFree, page, 0)
			}
		})
	}
	wantGet(t, s, 0, data(0))
}

func TestGetWhatCantBeRead(t *testing.T) {
	s, d := fresh(8)
	a := made(t, s, data(1))
	b := rooted(t, s, data(2))
	x := rooted(t, s, leafOf(1, a, 2, b))
	d.Spoil(a+4, true)
	wantNoGet(t, s, a, api.ErrFault)
	wantGet(t, s, b, data(2))
	wantGet(t, s, x, leafOf(1, a, 2, b))
	d.Spoil(a+4, false)
	wantGet(t, s, a, data(1))
	// The disk's error comes ahead of Open's.
	d.Write(b+4, api.Page{9})
	wantNoGet(t, s, b, api.ErrNode)
	d.Spoil(b+4, true)
	wantNoGet(t, s, b, api.ErrFault)
}

func TestGetWhatIsNoNode(t *testing.T) {
	s, d := fresh(8)
	a := rooted(t, s, data(1))
	good, _ := d.Read(a + 4)
	turned := good
	turned[3] ^= 1
	long := good
	long[255] = 1
	for _, p := range []api.Page{{}, {1}, {2, 1, 5, 5}, turned, long} {
		d.Write(a+4, p)
		wantStays(t, s, d, func() { wantNoGet(t, s, a, api.ErrNode) })
	}
	d.Write(a+4, good)
	wantGet(t, s, a, data(1))
	// A page that was taken beside the store, and never written.
	page, _ := s.Pool().Take()
	wantNoGet(t, s, page, api.ErrNode)
}

// TestGetIsFromTheDisk: what is lost in a crash is lost.
func TestGetIsFromTheDisk(t *testing.T) {
	s, d := fresh(8)
	a := rooted(t, s, data(1))
	if d.Sync() != api.OK {
		t.Fatal("Sync")
	}
	b := rooted(t, s, data(2))
	d.Crash()
	wantGet(t, s, a, data(1))
	wantNoGet(t, s, b, api.ErrNode)
	wantCounts(t, s, 1, 1)
}

func TestHold(t *testing.T) {
	s, d := fresh(8)
	a := made(t, s, data(1))
	x := made(t, s, leafOf(1, a))
	wantHold(t, s, x, api.OK)
	wantCounts(t, s, 1, 1)
	wantHold(t, s, x, api.OK)
	wantCounts(t, s, 1, 2)
	for range 253 {
		wantHold(t, s, x, api.OK)
	}
	wantStays(t, s, d, func() { wantHold(t, s, x, api.ErrCount) })
	wantCounts(t, s, 1, 255)
	// Hold asks the pool alone.
	d.Spoil(a+4, true)
	wantHold(t, s, a, api.OK)
	wantCounts(t, s, 2, 255)
}

func TestDropOneOfMany(t *testing.T) {
	s, d := fresh(8)
	a := made(t, s, data(1))
	x := rooted(t, s, leafOf(1, a))
	wantHold(t, s, x, api.OK)
	d.Spoil(x+4, true) // it needn't be read
	wantDrop(t, s, x, api.OK)
	wantCounts(t, s, 1, 1)
	d.Spoil(x+4, false)
	wantDrop(t, s, x, api.OK)
	wantCounts(t, s)
	wantFree(t, s, 8)
}

// TestDropOfWhatWasMade: a node that was never held gives its children up, too.
func TestDropOfWhatWasMade(t *testing.T) {
	s, _ := fresh(8)
	a := made(t, s, data(1))
	x := made(t, s, leafOf(1, a))
	y := made(t, s, innerOf(1, x))
	wantDrop(t, s, y, api.OK)
	wantCounts(t, s)
	wantFree(t, s, 8)
}

// TestDropShared: what two roots share stays till both are dropped.
func TestDropShared(t *testing.T) {
	s, _ := fresh(12)
	a, b, c := made(t, s, data(1)), made(t, s, data(2)), made(t, s, data(3))
	x := made(t, s, leafOf(1, a, 2, b))
	y := made(t, s, leafOf(5, c))
	p := rooted(t, s, innerOf(1, x, 5, y))
	q := rooted(t, s, innerOf(5, y))
	wantCounts(t, s, 1, 1, 1, 1, 2, 1, 1)
	wantDrop(t, s, p, api.OK)
	wantCounts(t, s, 0, 0, 1, 0, 1, 0, 1)
	wantFree(t, s, 9)
	for _, page := range []int{a, b, x, p} {
		wantNoGet(t, s, page, api.ErrFree)
	}
	wantReach(t, s, []int{c, y, q}, q)
	wantDrop(t, s, q, api.OK)
	wantCounts(t, s)
	wantFree(t, s, 12)
	wantDrop(t, s, q, api.ErrFree)
}

// TestDropOfCommitted: what was held at a Commit goes, and isn't taken before the next one.
func TestDropOfCommitted(t *testing.T) {
	s, _ := fresh(6)
	a := made(t, s, data(1))
	x := rooted(t, s, leafOf(1, a))
	s.Pool().Commit()
	wantDrop(t, s, x, api.OK)
	wantCounts(t, s)
	wantFree(t, s, 4)
	wantMake(t, s, data(9), 2)
	s.Pool().Commit()
	wantFree(t, s, 6)
}

// TestDropWhatCantBeRead: the page is dropped, its children aren't.
func TestDropWhatCantBeRead(t *testing.T) {
	for _, want := range []api.Errno{api.ErrFault, api.ErrNode} {
		s, d := fresh(8)
		a := made(t, s, data(1))
		x := rooted(t, s, leafOf(1, a))
		mark := s.Mark()
		good, _ := d.Read(x + 4)
		if want == api.ErrFault {
			d.Spoil(x+4, true)
		} else {
			d.Write(x+4, api.Page{2})
		}
		wantDrop(t, s, x, want)
		wantCounts(t, s, 1)
		wantNoGet(t, s, x, api.ErrFree)
		wantDrop(t, s, x, api.ErrFree)
		wantGet(t, s, a, data(1))
		s.Undo(mark)
		d.Spoil(x+4, false)
		d.Write(x+4, good)
		wantCounts(t, s, 1, 1)
		wantDrop(t, s, x, api.OK)
		wantCounts(t, s)
	}
}

// TestDropEndsAtTheFirstError: what is ahead of it is done, with all below; what is behind it isn't.
func TestDropEndsAtTheFirstError(t *testing.T) {
	s, d := fresh(16)
	a, b, c := made(t, s, data(1)), made(t, s, data(2)), made(t, s, data(3))
	x, y, z := made(t, s, leafOf(1, a)), made(t, s, leafOf(2, b)), made(t, s, leafOf(3, c))
	root := rooted(t, s, innerOf(1, x, 2, y, 3, z))
	wantCounts(t, s, 1, 1, 1, 1, 1, 1, 1)
	mark := s.Mark()

	d.Spoil(y+4, true)
	wantDrop(t, s, root, api.ErrFault)
	wantCounts(t, s, 0, 1, 1, 0, 0, 1, 0)
	d.Spoil(y+4, false)
	s.Undo(mark)

	// A child that isn't held any more.
	if gone, e := s.Pool().Drop(y); !gone || e != api.OK {
		t.Fatal(gone, e)
	}
	wantDrop(t, s, root, api.ErrFree)
	wantCounts(t, s, 0, 1, 1, 0, 0, 1, 0)
	s.Undo(mark)

	// Of two errors the one that comes first, the children of a child ahead of the next one.
	d.Spoil(a+4, true)
	d.Write(y+4, api.Page{})
	wantDrop(t, s, root, api.ErrFault)
	wantCounts(t, s, 0, 1, 1, 0, 1, 1, 0)
	s.Undo(mark)
	d.Spoil(a+4, false)
	wantDrop(t, s, root, api.ErrNode)
	wantCounts(t, s, 0, 1, 1, 0, 0, 1, 0)
}

// TestRoundAbout: nodes that Make can't make, each below itself; every call ends.
func TestRoundAbout(t *testing.T) {
	s, d := fresh(8)
	for i := range byte(4) {
		rooted(t, s, data(i))
	}
	put(t, d, 0, leafOf(1, 0))
	put(t, d, 1, innerOf(1, 2, 2, 3))
	put(t, d, 2, innerOf(1, 3, 2, 1))
	wantReach(t, s, []int{0}, 0)
	wantReach(t, s, []int{1, 2, 3}, 2)
	wantReach(t, s, []int{0, 1, 2, 3}, 2, 0, 1)
	wantDrop(t, s, 0, api.ErrFree)
	wantCounts(t, s, 0, 1, 1, 1)
	wantDrop(t, s, 1, api.ErrFree)
	wantCounts(t, s)
}

// TestDeep: one node below the other, as many as there can be.
func TestDeep(t *testing.T) {
	s, _ := fresh(240)
	root := made(t, s, data(1))
	want := []int{root}
	for range 239 {
		root = made(t, s, innerOf(5, root))
		want = append(want, root)
	}
	wantHold(t, s, root, api.OK)
	wantReach(t, s, want, root)
	for i := range 240 {
		if s.Pool().Count(i) != 1 {
			t.Fatal(i, s.Pool().Count(i))
		}
	}
	wantNoMake(t, s, leafOf(1, root), api.ErrSpace)
	wantDrop(t, s, root, api.OK)
	wantCounts(t, s)
	wantFree(t, s, 240)
}

// TestWide: there are many more ways than pages.
func TestWide(t *testing.T) {
	s, _ := fresh(42)
	root := made(t, s, data(1))
	want := []int{root}
	for range 41 {
		root = made(t, s, innerOf(1, root, 2, root, 3, root, 4, root, 5, root, 6, root))
		want = append(want, root)
	}
	wantHold(t, s, root, api.OK)
	wantReach(t, s, want, root, root)
	wantDrop(t, s, root, api.OK)
	wantFree(t, s, 42)
}

func TestMarkAndUndo(t *testing.T) {
	s, d := fresh(12)
	a, b := made(t, s, data(1)), made(t, s, data(2))
	x := rooted(t, s, leafOf(1, a, 2, b))
	s.Pool().Commit()
	c := made(t, s, data(3)) // fresh at the mark
	y := rooted(t, s, leafOf(1, a, 3, c))
	z := made(t, s, data(4)) // not held at the mark
	mark := s.Mark()
	was := seen(mark)
	if seen(s.Pool()) != was {
		t.Error("the mark isn't the pool as it is")
	}
	for range 3 {
		wantDrop(t, s, x, api.OK)
		wantDrop(t, s, y, api.OK)
		wantDrop(t, s, z, api.OK)
		for _, page := range []int{a, b, x, c, y, z} {
			wantNoGet(t, s, page, api.ErrFree)
		}
		// Nothing of the mark's is written over, however much is made.
		for i := range byte(6) {
			wantMake(t, s, data(100+i), 6+int(i))
			wantHold(t, s, 6+int(i), api.OK)
		}
		wantNoMake(t, s, data(9), api.ErrSpace)
		if seen(mark) != was {
			t.Error("the mark was changed")
		}
		s.Undo(mark)
		if seen(s.Pool()) != was || seen(mark) != was {
			t.Error("Undo: the pool isn't as the mark was")
		}
		wantGet(t, s, a, data(1))
		wantGet(t, s, b, data(2))
		wantGet(t, s, x, leafOf(1, a, 2, b))
		wantGet(t, s, c, data(3))
		wantGet(t, s, y, leafOf(1, a, 3, c))
		wantGet(t, s, z, data(4))
		for page := 6; page < 12; page++ {
			wantNoGet(t, s, page, api.ErrFree)
		}
		wantReach(t, s, []int{a, b, x, c, y}, x, y)
	}
	// The disk isn't what is undone.
	if n := len(d.Pending()); n != 6+3*6 {
		t.Error(n)
	}
}

// TestUndoHolds: counts that rose are as they were.
func TestUndoHolds(t *testing.T) {
	s, _ := fresh(8)
	a := rooted(t, s, data(1))
	mark := s.Mark()
	wantHold(t, s, a, api.OK)
	wantMake(t, s, leafOf(1, a, 2, a), 1)
	wantCounts(t, s, 4)
	s.Undo(mark)
	wantCounts(t, s, 1)
	wantDrop(t, s, a, api.OK)
	wantCounts(t, s)
	s.Undo(mark)
	s.Undo(mark)
	wantCounts(t, s, 1)
	wantGet(t, s, a, data(1))
}

// TestMarkInMark: one may go back to the later one, and then to the earlier one.
func TestMarkInMark(t *testing.T) {
	s, _ := fresh(8)
	a := rooted(t, s, data(1))
	first := s.Mark()
	b := rooted(t, s, data(2))
	second := s.Mark()
	wantDrop(t, s, a, api.OK)
	wantDrop(t, s, b, api.OK)
	wantMake(t, s, data(3), 2)
	s.Undo(second)
	wantGet(t, s, a, data(1))
	wantGet(t, s, b, data(2))
	wantNoGet(t, s, 2, api.ErrFree)
	wantDrop(t, s, a, api.OK)
	s.Undo(first)
	wantGet(t, s, a, data(1))
	wantNoGet(t, s, b, api.ErrFree)
	wantMake(t, s, data(4), b)
	wantGet(t, s, b, data(4))
}

// TestMarkIsThePools: what is given up behind it isn't taken before Tidy.
func TestMarkIsThePools(t *testing.T) {
	s, _ := fresh(4)
	a := rooted(t, s, data(1))
	s.Mark()
	wantDrop(t, s, a, api.OK)
	wantFree(t, s, 3)
	wantMake(t, s, data(2), 1)
	s.Pool().Tidy()
	wantMake(t, s, data(3), 0)
}

func TestReach(t *testing.T) {
	s, d := fresh(12)
	a, b, c := made(t, s, data(1)), made(t, s, data(2)), made(t, s, data(3))
	x := made(t, s, leafOf(1, a, 2, b))
	y := made(t, s, leafOf(5, c, 6, b))
	p := rooted(t, s, innerOf(1, x, 5, y))
	q := rooted(t, s, innerOf(5, y))
	wantStays(t, s, d, func() {
		wantReach(t, s, nil)
		wantReach(t, s, nil, api.None)
		wantReach(t, s, nil, api.None, api.None)
		wantReach(t, s, []int{a}, a)
		wantReach(t, s, []int{a, b, x}, x)
		wantReach(t, s, []int{a, b, c, x, y, p}, p)
		wantReach(t, s, []int{b, c, y, q}, q)
		wantReach(t, s, []int{a, b, c, x, y, p, q}, p, q)
		wantReach(t, s, []int{a, b, c, x, y, p, q}, q, p)
		wantReach(t, s, []int{a, b, c, x, y}, y, x)
		wantReach(t, s, []int{a, b, x}, x, x, api.None, x, a)
		wantReach(t, s, []int{b, c, y, q}, api.None, q, api.None)
		wantReach(t, s, []int{a, b, c}, c, b, a, c)
	})
	// Roots by the thousand.
	wantReach(t, s, []int{a, b, c, x, y, p, q}, slices.Repeat([]int{q, api.None, p}, 50000)...)
}

// TestReachRises: whichever page has the lower number.
func TestReachRises(t *testing.T) {
	s, _ := fresh(8)
	for i := range byte(6) {
		rooted(t, s, data(i))
	}
	wantDrop(t, s, 0, api.OK)
	wantDrop(t, s, 2, api.OK)
	wantMake(t, s, leafOf(1, 5, 2, 3), 0)
	wantMake(t, s, innerOf(1, 0), 2)
	wantReach(t, s, []int{0, 2, 3, 5}, 2)
	wantReach(t, s, []int{0, 1, 2, 3, 4, 5}, 4, 2, 1)
}

func TestReachErrors(t *testing.T) {
	s, d := fresh(16)
	a, b, c := made(t, s, data(1)), made(t, s, data(2)), made(t, s, data(3))
	x := made(t, s, leafOf(1, a))
	y := made(t, s, leafOf(2, b))
	root := rooted(t, s, innerOf(1, x, 2, y))
	other := rooted(t, s, leafOf(3, c))
	want := []int{a, b, c, x, y, root, other}

	d.Spoil(b+4, true)
	wantNoReach(t, s, api.ErrFault, b)
	wantNoReach(t, s, api.ErrFault, root)
	wantNoReach(t, s, api.ErrFault, other, root)
	wantNoReach(t, s, api.ErrFault, other, api.None, root, other)
	wantReach(t, s, []int{a, c, x, other}, other, x)
	d.Spoil(b+4, false)
	wantReach(t, s, want, root, other)

	// The first one counts: by the order of the roots, and by that of the children, with all below them.
	d.Spoil(a+4, true)
	good, _ := d.Read(y + 4)
	d.Write(y+4, api.Page{})
	if gone, e := s.Pool().Drop(c); !gone || e != api.OK {
		t.Fatal(gone, e)
	}
	wantStays(t, s, d, func() {
		wantNoReach(t, s, api.ErrFault, root)
		wantNoReach(t, s, api.ErrFault, root, other)
		wantNoReach(t, s, api.ErrFree, other, root)
		wantNoReach(t, s, api.ErrNode, y, other, root)
		wantNoReach(t, s, api.ErrFree, 15, y)
		wantNoReach(t, s, api.ErrFree, -2, y)
		wantNoReach(t, s, api.ErrNode, api.None, y, -2)
	})
	d.Spoil(a+4, false)
	wantNoReach(t, s, api.ErrNode, root)
	d.Write(y+4, good)
	wantReach(t, s, []int{a, b, x, y, root}, root)
}

// TestArgumentsStay: nothing that is handed in is changed, spare room included, or kept.
func TestArgumentsStay(t *testing.T) {
	s, _ := fresh(16)
	for i := range byte(4) {
		rooted(t, s, data(i))
	}
	room := entries(1, 3, 2, 1, 3, 0, 77, 88, 99, 111)
	was := slices.Clone(room)
	page := made(t, s, api.Node{Kind: api.KindLeaf, Entries: room[:3]})
	s.Make(api.Node{Kind: api.KindLeaf, Entries: room[:4]})
	s.Make(api.Node{Kind: api.KindData, Entries: room[:2]})
	if !slices.Equal(room, was) {
		t.Error("Make changed what it was given:", room)
	}
	clear(room)
	wantGet(t, s, page, leafOf(1, 3, 2, 1, 3, 0))
	wantDrop(t, s, page, api.OK)
	wantCounts(t, s, 1, 1, 1, 1)

	roots := []int{3, api.None, 1, 3, 2, 9, 9}
	s.Reach(roots[:4]...)
	s.Reach(roots...)
	if !slices.Equal(roots, []int{3, api.None, 1, 3, 2, 9, 9}) {
		t.Error("Reach changed what it was given:", roots)
	}
}

// TestAnswersAreNew: what was answered may be written over.
func TestAnswersAreNew(t *testing.T) {
	s, _ := fresh(16)
	a := made(t, s, data(1))
	x := rooted(t, s, leafOf(1, a, 2, a))
	n, _ := s.Get(x)
	m, _ := s.Get(x)
	spoil := n.Entries[:cap(n.Entries)]
	for i := range spoil {
		spoil[i] = api.Entry{Key: -7, Page: -7}
	}
	if !leaf.Same(m, leafOf(1, a, 2, a)) {
		t.Error("two answers share their memory:", m)
	}
	wantGet(t, s, x, leafOf(1, a, 2, a))

	roots := []int{a, x}
	l, _ := s.Reach(roots...)
	k, _ := s.Reach(roots...)
	clear(l[:cap(l)])
	if !slices.Equal(k, []int{a, x}) || !slices.Equal(roots, []int{a, x}) {
		t.Error("an answer shares its memory:", k, roots)
	}

	// A mark is another pool than the store's, and than another mark.
	first, second := s.Mark(), s.Mark()
	if first == second || first == s.Pool() {
		t.Error("a mark isn't a Clone")
	}
	first.Drop(x)
	wantCounts(t, s, 2, 1)
	s.Undo(second)
	second.Drop(x)
	wantCounts(t, s, 2, 1)
}

// world is a store, and what must be in it: the nodes by their pages, and the roots, each held once.
type world struct {
	s     *Store
	d     *disk.Disk
	nodes map[int]api.Node
	roots []int
}

// reached: by another way than the store's, page by page till nothing comes in addition.
func (w *world) reached(roots []int) []int {
	var l []int
	for _, root := range roots {
		if root != api.None && !slices.Contains(l, root) {
			l = append(l, root)
		}
	}
	for i := 0; i < len(l); i++ {
		for _, x := range w.nodes[l[i]].Entries {
			if !slices.Contains(l, x.Page) {
				l = append(l, x.Page)
			}
		}
	}
	slices.Sort(l)
	return l
}

// check: each page is held as often as it is among the roots and the children of what is reached, and can be gotten; others can't.
func (w *world) check(t *testing.T) {
	t.Helper()
	reached := w.reached(w.roots)
	wantReach(t, w.s, reached, w.roots...)
	var counts tally.Counts
	for _, root := range w.roots {
		counts[root]++
	}
	for _, page := range reached {
		for _, x := range w.nodes[page].Entries {
			counts[x.Page]++
		}
	}
	if got := w.s.Pool().Counts(); got != counts {
		t.Fatalf("counts: %v, not %v", got, counts)
	}
	for page := range w.s.Pool().Size() {
		if slices.Contains(reached, page) {
			wantGet(t, w.s, page, w.nodes[page])
		} else {
			wantNoGet(t, w.s, page, api.ErrFree)
		}
	}
	if t.Failed() {
		t.FailNow()
	}
}

// grow makes a node, of some that are there and of new blocks, and holds it as a root; false, if there is no room.
func (w *world) grow(r *rand.Rand) bool {
	there := w.reached(w.roots)
	n := api.Node{Kind: api.KindLeaf + r.Intn(2)}
	for key := r.Intn(10); key < 64 && len(n.Entries) < 6 && r.Intn(5) > 0; key += 1 + r.Intn(12) {
		page := api.None
		if len(there) > 0 && r.Intn(2) == 0 {
			page = there[r.Intn(len(there))]
		} else if page = w.make(data(byte(r.Intn(256)))); page == api.None {
			return false
		}
		n.Entries = append(n.Entries, api.Entry{Key: key, Page: page})
	}
	if len(n.Entries) == 0 {
		n = data(byte(r.Intn(256)))
	}
	page := w.make(n)
	if page == api.None || w.s.Hold(page) != api.OK {
		return false
	}
	w.roots = append(w.roots, page)
	return true
}

func (w *world) make(n api.Node) int {
	page, e := w.s.Make(n)
	if e == api.OK {
		w.nodes[page] = n
	}
	return page
}

// step: something is grown, dropped, or held as a root once more; what fails is undone.
func (w *world) step(t *testing.T, r *rand.Rand) {
	t.Helper()
	switch {
	case r.Intn(2) == 0:
		mark, roots, nodes := w.s.Mark(), slices.Clone(w.roots), copied(w.nodes)
		if !w.grow(r) {
			w.s.Undo(mark)
			w.roots, w.nodes = roots, nodes
		}
	case len(w.roots) > 0 && r.Intn(4) == 0:
		page := w.roots[r.Intn(len(w.roots))]
		wantHold(t, w.s, page, api.OK)
		w.roots = append(w.roots, page)
	case len(w.roots) > 0:
		i := r.Intn(len(w.roots))
		wantDrop(t, w.s, w.roots[i], api.OK)
		w.roots = slices.Delete(w.roots, i, i+1)
	}
}

func copied(m map[int]api.Node) map[int]api.Node {
	c := map[int]api.Node{}
	for page, n := range m {
		c[page] = n
	}
	return c
}

// TestHeldAsOftenAsNeeded: whatever is made, held as a root, dropped and undone.
func TestHeldAsOftenAsNeeded(t *testing.T) {
	r := rand.New(rand.NewSource(9))
	for range 60 {
		s, d := fresh(1 + r.Intn(60))
		w := &world{s: s, d: d, nodes: map[int]api.Node{}}
		for range 60 {
			w.step(t, r)
			w.check(t)
			switch r.Intn(12) {
			case 0:
				s.Pool().Commit()
			case 1:
				s.Pool().Tidy()
			}
			w.check(t)
		}
		for len(w.roots) > 0 {
			wantDrop(t, s, w.roots[0], api.OK)
			w.roots = w.roots[1:]
			w.check(t)
		}
		s.Pool().Commit()
		wantFree(t, s, s.Pool().Size())
	}
}

// TestUndoWhatever: behind Undo each node that could be gotten at the mark is there, again and again.
func TestUndoWhatever(t *testing.T) {
	r := rand.New(rand.NewSource(19))
	for range 60 {
		s, d := fresh(10 + r.Intn(50))
		w := &world{s: s, d: d, nodes: map[int]api.Node{}}
		for range r.Intn(20) {
			w.step(t, r)
			if r.Intn(6) == 0 {
				s.Pool().Commit()
			}
		}
		s.Pool().Tidy()
		mark, roots, nodes := s.Mark(), slices.Clone(w.roots), copied(w.nodes)
		was := seen(mark)
		for range 3 {
			for range r.Intn(25) {
				w.step(t, r)
			}
			w.check(t)
			s.Undo(mark)
			w.roots, w.nodes = slices.Clone(roots), copied(nodes)
			if seen(s.Pool()) != was || seen(mark) != was {
				t.Fatal("Undo: the pool isn't as the mark was")
			}
			w.check(t)
		}
	}
}

// TestReachWhatever: any roots, held against another way of reaching.
func TestReachWhatever(t *testing.T) {
	r := rand.New(rand.NewSource(29))
	for range 40 {
		s, d := fresh(40)
		w := &world{s: s, d: d, nodes: map[int]api.Node{}}
		for range 40 {
			w.step(t, r)
		}
		there := w.reached(w.roots)
		for range 20 {
			var roots []int
			for range r.Intn(6) {
				if len(there) == 0 || r.Intn(4) == 0 {
					roots = append(roots, api.None)
				} else {
					roots = append(roots, there[r.Intn(len(there))])
				}
			}
			wantReach(t, s, w.reached(roots), roots...)
		}
	}
}

// TestEveryCallEnds: whatever stands on the disk, and whatever is asked.
func TestEveryCallEnds(t *testing.T) {
	r := rand.New(rand.NewSource(39))
	for range 300 {
		size := r.Intn(12)
		d := disk.New(4 + r.Intn(12))
		s := New(d, pool.New(size))
		for i := range size {
			s.Pool().Take()
			for range r.Intn(4) {
				s.Hold(i)
			}
			var l []api.Entry
			for key := range 1 + r.Intn(6) {
				l = append(l, api.Entry{Key: key, Page: r.Intn(size + 1)})
			}
			p, _ := leaf.Page(api.Node{Kind: api.KindInner, Entries: l})
			d.Write(i+4, p)
		}
		for range 60 {
			page := r.Intn(size+4) - 2
			switch r.Intn(5) {
			case 0:
				s.Make(leafOf(1, page, 2, r.Intn(size+1)))
			case 1:
				s.Drop(page)
			case 2:
				s.Hold(page)
			case 3:
				s.Get(page)
			case 4:
				l, e := s.Reach(page, r.Intn(size+1))
				if !slices.IsSorted(l) || len(slices.Compact(slices.Clone(l))) != len(l) || e != api.OK && len(l) > 0 {
					t.Fatal(l, e)
				}
			}
		}
	}
}

// TestSameAgain: what is answered hangs on what was done alone.
func TestSameAgain(t *testing.T) {
	run := func() ([]int, tally.Counts, []int) {
		r := rand.New(rand.NewSource(49))
		s, d := fresh(50)
		w := &world{s: s, d: d, nodes: map[int]api.Node{}}
		for range 80 {
			w.step(t, r)
		}
		l, _ := s.Reach(w.roots...)
		return l, s.Pool().Counts(), d.Pending()
	}
	l, c, p := run()
	for range 5 {
		l2, c2, p2 := run()
		if !slices.Equal(l, l2) || c != c2 || !slices.Equal(p, p2) {
			t.Fatal("another time it was otherwise")
		}
	}
}
