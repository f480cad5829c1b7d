package diff

import (
	"cmp"
	"math"
	"math/rand"
	"slices"
	"strconv"
	"strings"
	"testing"

	"understudy/api"
	"understudy/disk"
	"understudy/leaf"
	"understudy/nodes"
	"understudy/pool"
	"understudy/prune"
	"understudy/tally"
	"understudy/tree"
)

// wrongKeys: keys that there aren't.
var wrongKeys = []int{-1, -2, -64, 64, 65, 127, 128, 255, 256, 320, 1 << 32, 1<<32 + 1, math.MinInt, math.MinInt + 1, math.MaxInt - 1, math.MaxInt}

// entries: of keys and pages, by turns.
func entries(l ...int) []api.Entry {
	var x []api.Entry
	for i := 0; i < len(l); i += 2 {
		x = append(x, api.Entry{Key: l[i], Page: l[i+1]})
	}
	return x
}

// upTo: so many numbers from 0 on.
func upTo(n int) []int {
	l := make([]int, n)
	for i := range l {
		l[i] = i
	}
	return l
}

func data(c byte) api.Node { return api.Node{Kind: api.KindData, Block: api.Block{c, 15: ^c}} }

func leafOf(l ...int) api.Node { return api.Node{Kind: api.KindLeaf, Entries: entries(l...)} }

func innerOf(l ...int) api.Node { return api.Node{Kind: api.KindInner, Entries: entries(l...)} }

// bed is trees, the disk they stand on, and blocks that are held once beside them.
type bed struct {
	Differ
	d      *disk.Disk
	blocks []int
}

// fresh: a store of so many pages, of which the first ones are so many blocks.
func fresh(t *testing.T, size, blocks int) *bed {
	t.Helper()
	b := &bed{d: disk.New(size + api.FirstPage)}
	b.Pruner = prune.Pruner{Tree: tree.Tree{Store: nodes.New(b.d, pool.New(size))}}
	for i := range blocks {
		b.blocks = append(b.blocks, b.rooted(t, data(byte(i))))
	}
	return b
}

func (b *bed) made(t *testing.T, n api.Node) int {
	t.Helper()
	page, e := b.Make(n)
	if e != api.OK {
		t.Fatalf("Make of %v: %d, %d", n, page, e)
	}
	return page
}

// rooted: a node that is made, and held as a root.
func (b *bed) rooted(t *testing.T, n api.Node) int {
	t.Helper()
	page := b.made(t, n)
	b.hold(t, page)
	return page
}

func (b *bed) hold(t *testing.T, page int) {
	t.Helper()
	if e := b.Hold(page); e != api.OK {
		t.Fatalf("Hold of %d: %d", page, e)
	}
}

func (b *bed) drop(t *testing.T, page int) {
	t.Helper()
	if e := b.Drop(page); e != api.OK {
		t.Fatalf("Drop of %d: %d", page, e)
	}
}

// holdOften: a page is held so often.
func (b *bed) holdOften(t *testing.T, page, times int) {
	t.Helper()
	for b.Pool().Count(page) < times {
		b.hold(t, page)
	}
}

// leave: just so many pages stay free.
func (b *bed) leave(t *testing.T, free int) {
	t.Helper()
	for b.Pool().Free() > free {
		page, e := b.Pool().Take()
		if e != api.OK {
			t.Fatal(page, e)
		}
		b.hold(t, page)
	}
}

// lay: whatever one likes stands on a page, beside the store.
func (b *bed) lay(t *testing.T, page int, n api.Node) {
	t.Helper()
	p, e := leaf.Page(n)
	if e != api.OK || b.d.Write(page+api.FirstPage, p) != api.OK {
		t.Fatal(page, n, e)
	}
}

// of: keys with the block that belongs to each.
func (b *bed) of(keys ...int) []api.Entry {
	var l []api.Entry
	for _, key := range keys {
		l = append(l, api.Entry{Key: key, Page: b.blocks[key%len(b.blocks)]})
	}
	return l
}

// built: a tree of these keys, put in one behind the other, held once.
func (b *bed) built(t *testing.T, keys ...int) int {
	t.Helper()
	root, e := b.Build(b.of(keys...)...)
	if e != api.OK {
		t.Fatalf("Build of %v: %d, %d", keys, root, e)
	}
	return root
}

func (b *bed) wantList(t *testing.T, root int, want ...api.Entry) {
	t.Helper()
	if l, e := b.List(root); !slices.Equal(l, want) || e != api.OK {
		t.Errorf("List of %d: %v, %d, not %v", root, l, e, want)
	}
}

func (b *bed) wantFree(t *testing.T, want int) {
	t.Helper()
	if n := b.Pool().Free(); n != want {
		t.Errorf("%d pages are free, not %d", n, want)
	}
}

func (b *bed) wantChanges(t *testing.T, one, two int, want ...api.Change) {
	t.Helper()
	if l, e := b.Changes(one, two); !slices.Equal(l, want) || e != api.OK {
		t.Errorf("Changes of %d and %d: %v, %d, not %v", one, two, l, e, want)
	}
}

func (b *bed) wantNoChanges(t *testing.T, one, two int, want api.Errno) {
	t.Helper()
	if l, e := b.Changes(one, two); len(l) != 0 || e != want {
		t.Errorf("Changes of %d and %d: %v, %d, not none, %d", one, two, l, e, want)
	}
}

func (b *bed) wantShared(t *testing.T, one, two int, want ...int) {
	t.Helper()
	if l, e := b.Shared(one, two); !slices.Equal(l, want) || e != api.OK {
		t.Errorf("Shared of %d and %d: %v, %d, not %v", one, two, l, e, want)
	}
}

func (b *bed) wantNoShared(t *testing.T, one, two int, want api.Errno) {
	t.Helper()
	if l, e := b.Shared(one, two); len(l) != 0 || e != want {
		t.Errorf("Shared of %d and %d: %v, %d, not none, %d", one, two, l, e, want)
	}
}

func (b *bed) wantApply(t *testing.T, root int, l ...api.Change) int {
	t.Helper()
	next, e := b.Apply(root, l...)
	if e != api.OK {
		t.Fatalf("Apply of %v to %d: %d, %d", l, root, next, e)
	}
	return next
}

func (b *bed) wantNoApply(t *testing.T, want api.Errno, root int, l ...api.Change) {
	t.Helper()
	if next, e := b.Apply(root, l...); next != api.None || e != want {
		t.Errorf("Apply of %v to %d: %d, %d, not None, %d", l, root, next, e, want)
	}
}

// altered: another tree, with these changes, that is held once; the elder one stays.
func (b *bed) altered(t *testing.T, root int, l ...api.Change) int {
	t.Helper()
	b.swap(t, api.None, root)
	for _, x := range l {
		next, e := b.one(root, x)
		if e != api.OK {
			t.Fatal(root, x, e)
		}
		b.swap(t, root, next)
		root = next
	}
	return root
}

// one change, by the calls of the layers below alone.
func (b *bed) one(root int, x api.Change) (int, api.Errno) {
	if x.Page != api.None {
		return b.Put(root, x.Key, x.Page)
	}
	next, _, e := b.Cut(root, x.Key)
	return next, e
}

// nodesOf: the pages of the tree's nodes.
func (b *bed) nodesOf(t *testing.T, root int) []int {
	t.Helper()
	known := map[*grown]int{}
	b.read(t, root, known)
	var l []int
	for _, page := range known {
		l = append(l, page)
	}
	slices.Sort(l)
	return l
}

// page: that of the node that a text shows.
func (b *bed) page(t *testing.T, root int, text string) int {
	t.Helper()
	known := map[*grown]int{}
	b.read(t, root, known)
	for g, page := range known {
		if g.text() == text {
			return page
		}
	}
	t.Fatal(root, "has no", text)
	return 0
}

// listed: what List tells, by the key.
func (b *bed) listed(t *testing.T, root int) map[int]int {
	t.Helper()
	l, e := b.List(root)
	if e != api.OK {
		t.Fatal(root, e)
	}
	pages := map[int]int{}
	for _, x := range l {
		pages[x.Key] = x.Page
	}
	return pages
}

// between: what Changes must tell.
func (b *bed) between(t *testing.T, one, two int) []api.Change {
	t.Helper()
	was, is := b.listed(t, one), b.listed(t, two)
	var l []api.Change
	for key := range 64 {
		p, had := was[key]
		q, has := is[key]
		if !has {
			q = api.None
		}
		if had != has || had && p != q {
			l = append(l, api.Change{Key: key, Page: q})
		}
	}
	return l
}

// wantDiffer: Changes and Shared of two trees are what the layers below tell, both ways, and nothing is changed by them.
func (b *bed) wantDiffer(t *testing.T, one, two int) {
	t.Helper()
	ours, theirs := b.nodesOf(t, one), b.nodesOf(t, two)
	both := slices.DeleteFunc(slices.Clone(ours), func(page int) bool { return !slices.Contains(theirs, page) })
	b.wantStays(t, func() {
		b.wantChanges(t, one, two, b.between(t, one, two)...)
		b.wantChanges(t, two, one, b.between(t, two, one)...)
		b.wantShared(t, one, two, both...)
		b.wantShared(t, two, one, both...)
		b.wantChanges(t, one, one)
		b.wantShared(t, one, one, ours...)
	})
}

// wantStays: what is done changes neither the pool nor the disk.
func (b *bed) wantStays(t *testing.T, do func()) {
	t.Helper()
	was, writes := *b.Pool(), b.d.Pending()
	do()
	if *b.Pool() != was {
		t.Error("the pool was changed")
	}
	if !slices.Equal(b.d.Pending(), writes) {
		t.Error("the disk was written:", b.d.Pending(), writes)
	}
}

// wantUndone: what is done, Undo makes undone.
func (b *bed) wantUndone(t *testing.T, do func()) {
	t.Helper()
	mark := b.Mark()
	do()
	b.Undo(mark)
	if *b.Pool() != *mark {
		t.Error("Undo left something")
	}
}

// wantCounts: each page is held as often as it is among the roots, the blocks, and the children of the nodes of the roots' trees.
func (b *bed) wantCounts(t *testing.T, roots ...int) {
	t.Helper()
	var want tally.Counts
	for _, page := range slices.Concat(b.blocks, roots) {
		if page != api.None {
			want[page]++
		}
	}
	all, e := b.Reach(roots...)
	if e != api.OK {
		t.Fatal(roots, e)
	}
	for _, page := range all {
		n, _ := b.Get(page)
		for _, x := range n.Entries {
			want[x.Page]++
		}
	}
	if got := b.Pool().Counts(); got != want {
		t.Fatalf("counts: %v, not %v", got, want)
	}
}

// grown is a tree in memory.
type grown struct {
	inner bool
	keys  []int
	kids  []*grown
}

func (g *grown) first() int {
	if g.inner {
		return g.kids[0].first()
	}
	return g.keys[0]
}

func (g *grown) text() string {
	if g == nil {
		return ""
	}
	var parts []string
	for _, key := range g.keys {
		parts = append(parts, strconv.Itoa(key))
	}
	for _, k := range g.kids {
		parts = append(parts, k.text())
	}
	return "(" + strings.Join(parts, " ") + ")"
}

// parsed: the tree that a text shows, and what is behind it.
func parsed(text string) (*grown, string) {
	g, rest := &grown{}, text[1:]
	for rest[0] != ')' {
		switch end := strings.IndexAny(rest, " )"); {
		case rest[0] == '(':
			var k *grown
			k, rest = parsed(rest)
			g.inner, g.kids = true, append(g.kids, k)
		default:
			key, _ := strconv.Atoi(rest[:end])
			g.keys, rest = append(g.keys, key), rest[end:]
		}
		rest = strings.TrimPrefix(rest, " ")
	}
	return g, rest[1:]
}

// laid: the tree that a text shows, made by hand and held once.
func (b *bed) laid(t *testing.T, text string) int {
	t.Helper()
	g, _ := parsed(text)
	return b.rooted(t, b.nodeOf(t, g))
}

func (b *bed) nodeOf(t *testing.T, g *grown) api.Node {
	t.Helper()
	n := api.Node{Kind: api.KindLeaf, Entries: b.of(g.keys...)}
	for _, k := range g.kids {
		n.Kind = api.KindInner
		n.Entries = append(n.Entries, api.Entry{Key: k.first(), Page: b.made(t, b.nodeOf(t, k))})
	}
	return n
}

// read: the tree that stands there, whose pages go to known; it is held against what a tree is on the way.
func (b *bed) read(t *testing.T, page int, known map[*grown]int) *grown {
	t.Helper()
	if page == api.None {
		return nil
	}
	n, e := b.Get(page)
	if e != api.OK || n.Kind == api.KindData {
		t.Fatalf("page %d of a tree: %v, %d", page, n, e)
	}
	g := &grown{inner: n.Kind == api.KindInner}
	known[g] = page
	for _, x := range n.Entries {
		if !g.inner {
			g.keys = append(g.keys, x.Key)
			continue
		}
		k := b.read(t, x.Page, known)
		g.kids = append(g.kids, k)
		if k.first() != x.Key || k.inner != g.kids[0].inner {
			t.Fatalf("page %d, below %d: the key %d, not %d; or another height", x.Page, page, k.first(), x.Key)
		}
	}
	return g
}

func (b *bed) swap(t *testing.T, old, next int) {
	t.Helper()
	if e := b.Swap(old, next); e != api.OK {
		t.Fatal(old, next, e)
	}
}

// orders: all 64 keys, in several orders.
func orders() map[string][]int {
	rising := upTo(64)
	falling := slices.Clone(rising)
	slices.Reverse(falling)
	l := map[string][]int{"rising": rising, "falling": falling}
	for _, step := range []int{5, 27, 37} {
		var mixed []int
		for i := range 64 {
			mixed = append(mixed, i*step%64)
		}
		l["by steps of "+strconv.Itoa(step)] = mixed
	}
	for seed := range int64(4) {
		l["mixed "+strconv.FormatInt(seed, 10)] = rand.New(rand.NewSource(seed)).Perm(64)
	}
	return l
}

func TestLimits(t *testing.T) {
	if api.MaxEntries != 6 || api.MaxHeight != 8 || api.MaxBlocks != 64 || api.None != -1 || api.KindLeaf != 2 || api.KindInner != 3 {
		t.Error(api.MaxEntries, api.MaxHeight, api.MaxBlocks, api.None, api.KindLeaf, api.KindInner)
	}
	if api.ErrPage != 41 || api.ErrPower != 42 || api.ErrFault != 43 || api.ErrSpace != 71 || api.ErrCount != 72 || api.ErrFree != 73 || api.ErrNode != 81 || api.ErrBlock != 101 {
		t.Error("an error has another number")
	}
}

// TestExample: a tree, and the same one with one key more.
func TestExample(t *testing.T) {
	b := fresh(t, 60, 2)
	root := b.built(t, upTo(30)...)
	free := b.Pool().Free()
	next := b.altered(t, root, api.Change{Key: 40, Page: b.blocks[1]})
	anew := free - b.Pool().Free()
	b.wantChanges(t, root, next, api.Change{Key: 40, Page: b.blocks[1]})
	b.wantChanges(t, next, root, api.Change{Key: 40, Page: api.None})
	all := b.nodesOf(t, next)
	l, e := b.Shared(root, next)
	if e != api.OK || anew == 0 || len(l) != len(all)-anew || len(l) == 0 {
		t.Error(l, e, anew, all)
	}
	for _, page := range l {
		if n, e := b.Get(page); e != api.OK || n.Kind == api.KindData || !slices.Contains(all, page) {
			t.Error(page, n, e)
		}
	}
	b.wantDiffer(t, root, next)
}

// TestChangesByHand: pages that are told one by one.
func TestChangesByHand(t *testing.T) {
	b := fresh(t, 40, 3)
	k, l, m := b.blocks[0], b.blocks[1], b.blocks[2]
	left, right := b.made(t, leafOf(0, k, 1, l)), b.made(t, leafOf(20, m, 63, k))
	one := b.rooted(t, innerOf(0, left, 20, right))
	two := b.rooted(t, innerOf(0, left, 20, b.made(t, leafOf(20, l, 40, k, 63, k))))
	three := b.rooted(t, leafOf(1, m, 63, l))
	up := b.rooted(t, innerOf(0, one))
	b.wantStays(t, func() {
		b.wantChanges(t, one, two, api.Change{Key: 20, Page: l}, api.Change{Key: 40, Page: k})
		b.wantChanges(t, two, one, api.Change{Key: 20, Page: m}, api.Change{Key: 40, Page: api.None})
		b.wantShared(t, one, two, left)
		b.wantShared(t, two, one, left)
		b.wantChanges(t, one, three, api.Change{Key: 0, Page: api.None}, api.Change{Key: 1, Page: m}, api.Change{Key: 20, Page: api.None}, api.Change{Key: 63, Page: l})
		b.wantChanges(t, three, one, api.Change{Key: 0, Page: k}, api.Change{Key: 1, Page: l}, api.Change{Key: 20, Page: m}, api.Change{Key: 63, Page: k})
		b.wantShared(t, one, three)
		b.wantChanges(t, up, one)
		b.wantChanges(t, one, up)
		b.wantShared(t, up, one, slices.Sorted(slices.Values([]int{left, right, one}))...)
		b.wantChanges(t, up, two, api.Change{Key: 20, Page: l}, api.Change{Key: 40, Page: k})
		b.wantShared(t, two, up, left)
	})
	for _, x := range []int{api.None, one, two, three, up} {
		for _, y := range []int{api.None, one, two, three, up} {
			b.wantDiffer(t, x, y)
		}
	}
}

// TestNothing: None is a tree in which nothing is.
func TestNothing(t *testing.T) {
	b := fresh(t, 60, 3)
	b.wantStays(t, func() {
		b.wantChanges(t, api.None, api.None)
		b.wantShared(t, api.None, api.None)
	})
	for _, keys := range [][]int{{0}, {63}, {0, 63}, upTo(7), upTo(64)} {
		root := b.built(t, keys...)
		var all, gone []api.Change
		for _, x := range b.of(keys...) {
			all, gone = append(all, api.Change(x)), append(gone, api.Change{Key: x.Key, Page: api.None})
		}
		b.wantChanges(t, api.None, root, all...)
		b.wantChanges(t, root, api.None, gone...)
		b.wantShared(t, root, api.None)
		b.wantShared(t, api.None, root)
		b.wantChanges(t, root, root)
		b.wantDiffer(t, root, api.None)
		b.swap(t, root, api.None)
	}
	none := fresh(t, 0, 0)
	none.wantChanges(t, api.None, api.None)
	none.wantShared(t, api.None, api.None)
}

// TestOneChange: each key of trees of several sizes is cut, put anew with another page, or with the same one.
func TestOneChange(t *testing.T) {
	for _, count := range []int{0, 1, 6, 7, 20, 22, 40, 63, 64} {
		b := fresh(t, 90, 3)
		var keys []int
		for key := range count {
			keys = append(keys, key*27%64)
		}
		root := b.built(t, keys...)
		for key := range 64 {
			there := slices.Contains(keys, key)
			for _, page := range []int{b.blocks[key%3], b.blocks[(key+1)%3], api.None} {
				next := b.altered(t, root, api.Change{Key: key, Page: page})
				want := []api.Change{{Key: key, Page: page}}
				if there && page == b.blocks[key%3] || !there && page == api.None {
					want = nil
				}
				b.wantChanges(t, root, next, want...)
				b.wantDiffer(t, root, next)
				b.swap(t, next, api.None)
			}
		}
		b.wantCounts(t, root)
	}
}

// TestManyChanges: trees of which one was made of the other one, by more and more changes.
func TestManyChanges(t *testing.T) {
	for seed := range int64(20) {
		r := rand.New(rand.NewSource(seed))
		b := fresh(t, 240, 3)
		roots := []int{api.None, b.built(t, r.Perm(64)[:r.Intn(65)]...)}
		for len(roots) < 6 {
			var l []api.Change
			for range r.Intn(1 + 6*len(roots)) {
				l = append(l, api.Change{Key: r.Intn(64), Page: []int{api.None, b.blocks[0], b.blocks[1], b.blocks[2]}[r.Intn(4)]})
			}
			roots = append(roots, b.altered(t, roots[r.Intn(len(roots))], l...))
		}
		for _, one := range roots {
			for _, two := range roots {
				b.wantDiffer(t, one, two)
			}
		}
		b.wantCounts(t, roots...)
	}
}

// TestMadeApart: trees of the same entries have no changes, though they have no node in both.
func TestMadeApart(t *testing.T) {
	b := fresh(t, 240, 3)
	var roots []int
	for _, keys := range orders() {
		roots = append(roots, b.built(t, keys[:64]...))
		if len(roots) == 6 {
			break
		}
	}
	for i, one := range roots {
		for _, two := range roots[:i] {
			b.wantChanges(t, one, two)
			b.wantShared(t, one, two)
			b.wantDiffer(t, one, two)
		}
	}
	for _, texts := range [][2]string{
		{"(1 2 3)", "((1) (2 3))"},
		{"(1 2 3)", "((((1 2 3))))"},
		{"((1 2) (3 4))", "((1) (2 3 4))"},
		{"(((0) (1)) ((2 3) (63)))", "((0 1 2) (3 63))"},
	} {
		one, two := b.laid(t, texts[0]), b.laid(t, texts[1])
		b.wantChanges(t, one, two)
		b.wantShared(t, one, two)
		b.wantDiffer(t, one, two)
	}
}

// TestUnlikeHeights: one tree below the other, or what both have at unlike depths.
func TestUnlikeHeights(t *testing.T) {
	b := fresh(t, 120, 3)
	low := b.built(t, upTo(6)...)
	mid := b.altered(t, low, api.Change{Key: 6, Page: b.blocks[0]})
	var more []api.Change
	for key := 7; key < 64; key++ {
		more = append(more, api.Change{Key: key, Page: b.blocks[key%3]})
	}
	high := b.altered(t, mid, more...)
	under, far := b.laid(t, "((40 41) (50 51))"), b.laid(t, "(60)")
	top := b.rooted(t, innerOf(1, b.rooted(t, innerOf(1, b.made(t, leafOf(1, b.blocks[0])))), 40, under, 60, b.rooted(t, innerOf(60, far))))
	for _, root := range []int{low, mid, high, under, far, top} {
		for _, other := range []int{api.None, low, mid, high, under, far, top} {
			b.wantDiffer(t, root, other)
		}
	}
	b.wantShared(t, top, under, b.nodesOf(t, under)...)
	b.wantShared(t, top, far, far)
	b.wantChanges(t, under, top, api.Change{Key: 1, Page: b.blocks[0]}, api.Change{Key: 60, Page: b.blocks[0]})
	b.wantChanges(t, top, far, api.Change{Key: 1, Page: api.None}, api.Change{Key: 40, Page: api.None}, api.Change{Key: 41, Page: api.None}, api.Change{Key: 50, Page: api.None}, api.Change{Key: 51, Page: api.None})
}

// spoilt: what there may be on a page that isn't asked for.
func spoilt(page, child int) []api.Page {
	var l []api.Page
	for _, n := range []api.Node{data(7), leafOf(5, child), leafOf(0, child, 63, child), innerOf(0, page), innerOf(0, page, 5, page, 9, page), innerOf(0, 239), innerOf(0, child)} {
		p, e := leaf.Page(n)
		if e == api.OK {
			l = append(l, p)
		}
	}
	return append(l, api.Page{}, api.Page{0: 2, 1: 1})
}

// TestNotLookedAt: what is in nodes that are in both doesn't count, whatever it is; what is in others does.
func TestNotLookedAt(t *testing.T) {
	b := fresh(t, 120, 3)
	low := b.built(t, upTo(22)...)
	root := b.altered(t, low, api.Change{Key: 50, Page: b.blocks[1]}, api.Change{Key: 60, Page: b.blocks[2]}, api.Change{Key: 3, Page: api.None})
	same := b.altered(t, low, api.Change{Key: 21, Page: b.blocks[0]})
	over := b.rooted(t, innerOf(0, low, 63, b.made(t, innerOf(63, b.made(t, leafOf(63, b.blocks[0]))))))
	wide := b.rooted(t, innerOf(0, b.rooted(t, innerOf(0, low))))
	for _, pair := range [][2]int{{low, root}, {root, low}, {low, same}, {root, same}, {low, over}, {over, low}, {root, over}, {over, wide}, {wide, low}, {low, low}, {over, over}} {
		one, two := pair[0], pair[1]
		want := b.between(t, one, two)
		both, e := b.Shared(one, two)
		if e != api.OK || len(both) == 0 {
			t.Fatal(pair, both, e)
		}
		for _, page := range both {
			b.d.Spoil(page+api.FirstPage, true)
			b.wantChanges(t, one, two, want...)
			b.wantNoShared(t, one, two, api.ErrFault)
		}
		b.wantChanges(t, one, two, want...) // all at once
		for _, page := range both {
			b.d.Spoil(page+api.FirstPage, false)
		}
		b.wantShared(t, one, two, both...)
		for _, page := range both {
			good, _ := b.d.Read(page + api.FirstPage)
			for _, bad := range spoilt(page, b.blocks[0]) {
				b.d.Write(page+api.FirstPage, bad)
				if n, _ := b.Get(page); n.Kind != api.KindData {
					b.wantChanges(t, one, two, want...)
				}
			}
			b.d.Write(page+api.FirstPage, api.Page{})
			b.wantNoShared(t, one, two, api.ErrNode)
			b.d.Write(page+api.FirstPage, good)
		}
		for _, page := range append(b.nodesOf(t, one), b.nodesOf(t, two)...) {
			if slices.Contains(both, page) {
				continue
			}
			b.d.Spoil(page+api.FirstPage, true)
			b.wantNoChanges(t, one, two, api.ErrFault)
			b.wantNoShared(t, one, two, api.ErrFault)
			b.d.Spoil(page+api.FirstPage, false)
		}
		b.wantDiffer(t, one, two)
		if t.Failed() {
			t.Fatal(pair)
		}
	}
}

// TestFirstError: that of the first tree, in the order of its keys, a node ahead of what is under it.
func TestFirstError(t *testing.T) {
	b := fresh(t, 60, 3)
	one, two := b.laid(t, "((0 1) (2 3) (4 5))"), b.laid(t, "(((0 1) (2 3)) ((4 5)))")
	order := []int{one}
	for _, text := range []string{"(0 1)", "(2 3)", "(4 5)"} {
		order = append(order, b.page(t, one, text))
	}
	order = append(order, two)
	for _, text := range []string{"((0 1) (2 3))", "(0 1)", "(2 3)", "((4 5))", "(4 5)"} {
		order = append(order, b.page(t, two, text))
	}
	for i, first := range order {
		good, _ := b.d.Read(first + api.FirstPage)
		b.d.Write(first+api.FirstPage, api.Page{})
		for _, second := range order[i+1:] {
			b.d.Spoil(second+api.FirstPage, true)
			b.wantNoChanges(t, one, two, api.ErrNode)
			b.wantNoShared(t, one, two, api.ErrNode)
			b.d.Spoil(second+api.FirstPage, false)
		}
		b.d.Write(first+api.FirstPage, good)
		for _, second := range order[:i] {
			b.d.Write(first+api.FirstPage, api.Page{})
			b.d.Spoil(second+api.FirstPage, true)
			b.wantNoChanges(t, one, two, api.ErrFault)
			b.wantNoShared(t, one, two, api.ErrFault)
			b.d.Spoil(second+api.FirstPage, false)
			b.d.Write(first+api.FirstPage, good)
		}
	}
	b.wantDiffer(t, one, two)
}

// TestLooksOnly: a disk that is down, and one that is full, can be looked at.
func TestLooksOnly(t *testing.T) {
	b := fresh(t, 60, 3)
	one := b.built(t, upTo(30)...)
	two := b.altered(t, one, api.Change{Key: 5, Page: b.blocks[0]})
	b.leave(t, 0)
	b.d.Cut(0)
	b.wantDiffer(t, one, two)
	if b.d.Down() {
		t.Error("something was written")
	}
}

// TestApply: by hand.
func TestApply(t *testing.T) {
	for _, x := range []struct {
		text string
		l    []api.Change
		want []int // keys and blocks, by turns
	}{
		{"(1 2)", nil, []int{1, 1, 2, 2}},
		{"(1 2)", []api.Change{}, []int{1, 1, 2, 2}},
		{"(1 2)", []api.Change{{Key: 3, Page: 0}}, []int{1, 1, 2, 2, 3, 0}},
		{"(1 2)", []api.Change{{Key: 1, Page: 0}}, []int{1, 0, 2, 2}},
		{"(1 2)", []api.Change{{Key: 1, Page: 1}}, []int{1, 1, 2, 2}},
		{"(1 2)", []api.Change{{Key: 0, Page: 2}, {Key: 63, Page: 0}}, []int{0, 2, 1, 1, 2, 2, 63, 0}},
		{"(1 2)", []api.Change{{Key: 1, Page: -1}}, []int{2, 2}},
		{"(1 2)", []api.Change{{Key: 3, Page: -1}}, []int{1, 1, 2, 2}},
		{"(0 63)", []api.Change{{Key: 0, Page: -1}}, []int{63, 0}},
		{"(0 63)", []api.Change{{Key: 63, Page: -1}}, []int{0, 0}},
		{"(0 63)", []api.Change{{Key: 63, Page: -1}, {Key: 0, Page: -1}}, nil},
		{"(0 63)", []api.Change{{Key: 63, Page: -1}, {Key: 0, Page: -1}, {Key: 63, Page: -1}}, nil},
		{"(0 63)", []api.Change{{Key: 63, Page: -1}, {Key: 0, Page: -1}, {Key: 5, Page: 2}}, []int{5, 2}},
		// The same key twice: the last one counts.
		{"(1 2)", []api.Change{{Key: 1, Page: 0}, {Key: 1, Page: 2}}, []int{1, 2, 2, 2}},
		{"(1 2)", []api.Change{{Key: 1, Page: 0}, {Key: 1, Page: -1}}, []int{2, 2}},
		{"(1 2)", []api.Change{{Key: 1, Page: -1}, {Key: 1, Page: -1}}, []int{2, 2}},
		{"(1 2)", []api.Change{{Key: 1, Page: -1}, {Key: 1, Page: 0}}, []int{1, 0, 2, 2}},
		// In no order.
		{"((1 2) (5 6))", []api.Change{{Key: 40, Page: 1}, {Key: 2, Page: -1}, {Key: 3, Page: 0}, {Key: 0, Page: 1}, {Key: 6, Page: -1}}, []int{0, 1, 1, 1, 3, 0, 5, 2, 40, 1}},
		{"(((1)) ((5)))", []api.Change{{Key: 1, Page: -1}, {Key: 5, Page: -1}}, nil},
	} {
		b := fresh(t, 40, 3)
		root := b.laid(t, x.text)
		next := b.wantApply(t, root, x.l...)
		b.wantList(t, next, entries(x.want...)...)
		b.wantCounts(t, next)
		if (next == api.None) != (len(x.want) == 0) {
			t.Error(next)
		}
		if t.Failed() {
			t.Fatal(x)
		}
	}
}

// TestApplyToNothing: a tree of None, as Build makes it.
func TestApplyToNothing(t *testing.T) {
	for _, keys := range orders() {
		one, two := fresh(t, 60, 3), fresh(t, 60, 3)
		var l []api.Change
		for _, x := range one.of(keys...) {
			l = append(l, api.Change(x))
		}
		root := one.wantApply(t, api.None, l...)
		if other := two.built(t, keys...); other != root || *one.Pool() != *two.Pool() {
			t.Error("another tree than Build's")
		}
		one.wantCounts(t, root)
		// And back.
		for i := range l {
			l[i].Page = api.None
		}
		if next := one.wantApply(t, root, l...); next != api.None {
			t.Error(next)
		}
		one.wantFree(t, 57)
	}
	b := fresh(t, 0, 0)
	b.wantStays(t, func() {
		for _, l := range [][]api.Change{nil, {{Key: 0, Page: api.None}}, {{Key: 63, Page: api.None}, {Key: 5, Page: api.None}}} {
			if root := b.wantApply(t, api.None, l...); root != api.None {
				t.Error(root)
			}
		}
	})
}

// TestApplyStays: where there is nothing to change, the root stays, and nothing is done.
func TestApplyStays(t *testing.T) {
	b := fresh(t, 60, 3)
	for _, root := range []int{api.None, b.built(t, 5), b.built(t, upTo(30)...)} {
		b.wantStays(t, func() {
			for _, l := range [][]api.Change{nil, {}, {{Key: 40, Page: api.None}}, {{Key: 63, Page: api.None}, {Key: 31, Page: api.None}, {Key: 63, Page: api.None}}} {
				if next := b.wantApply(t, root, l...); next != root {
					t.Error(root, next)
				}
			}
		})
	}
}

// mixed: changes, of which some are of keys that aren't there.
func (b *bed) mixed(r *rand.Rand, count int) []api.Change {
	var l []api.Change
	for range count {
		l = append(l, api.Change{Key: r.Intn(64), Page: append([]int{api.None, api.None}, b.blocks...)[r.Intn(2+len(b.blocks))]})
	}
	return l
}

// TestApplyIsPutsAndCuts: as if each was Put or Cut, and Swapped, by hand.
func TestApplyIsPutsAndCuts(t *testing.T) {
	r := rand.New(rand.NewSource(7))
	for range 200 {
		one, two := fresh(t, 60, 3), fresh(t, 60, 3)
		keys := r.Perm(64)[:r.Intn(65)]
		root := one.built(t, keys...)
		if two.built(t, keys...) != root {
			t.Fatal("another tree")
		}
		l := one.mixed(r, r.Intn(40))
		want := one.listed(t, root)
		next, e := two.Apply(root, l...)
		for _, x := range l {
			page, e := one.one(root, x)
			if e != api.OK {
				t.Fatal(page, e)
			}
			if page != root {
				one.swap(t, root, page)
			}
			root = page
			want[x.Key] = x.Page
		}
		if next != root || e != api.OK || *one.Pool() != *two.Pool() {
			t.Fatal("another tree:", next, root, e)
		}
		two.wantCounts(t, next)
		for key, page := range want {
			if p, e := two.Find(next, key); p != page || e != api.OK {
				t.Fatal(key, p, page, e)
			}
		}
	}
}

// TestApplyOfChanges: Apply of a and Changes(a, b) has the same entries as b.
func TestApplyOfChanges(t *testing.T) {
	r := rand.New(rand.NewSource(3))
	for range 100 {
		b := fresh(t, 150, 3)
		one := b.built(t, r.Perm(64)[:r.Intn(65)]...)
		two := api.None
		switch r.Intn(4) {
		case 0:
			two = b.built(t, r.Perm(64)[:r.Intn(65)]...)
		case 1, 2:
			two = b.altered(t, one, b.mixed(r, r.Intn(40))...)
		}
		for range 2 {
			l, e := b.Changes(one, two)
			if e != api.OK {
				t.Fatal(e)
			}
			b.swap(t, api.None, one) // so that it stays
			three := b.wantApply(t, one, l...)
			list, _ := b.List(two)
			b.wantList(t, three, list...)
			b.wantChanges(t, two, three)
			b.wantChanges(t, three, two)
			if len(l) == 0 && three != one {
				t.Error("made anew for nothing:", one, three)
			}
			b.wantCounts(t, one, two, three)
			b.wantDiffer(t, one, three)
			b.swap(t, three, api.None)
			one, two = two, one
		}
	}
}

// TestHeldInItsPlace: of a root that is held more often, one less; of one that is held once, none.
func TestHeldInItsPlace(t *testing.T) {
	b := fresh(t, 60, 3)
	root := b.built(t, upTo(30)...)
	b.holdOften(t, root, 3)
	next := b.wantApply(t, root, api.Change{Key: 3, Page: b.blocks[2]}, api.Change{Key: 40, Page: b.blocks[2]}, api.Change{Key: 20, Page: api.None})
	if b.Pool().Count(root) != 2 || b.Pool().Count(next) != 1 {
		t.Error(b.Pool().Count(root), b.Pool().Count(next))
	}
	b.wantList(t, root, b.of(upTo(30)...)...)
	b.wantCounts(t, root, root, next)
	b.drop(t, root)
	last := b.wantApply(t, root, api.Change{Key: 3, Page: b.blocks[1]})
	if b.Pool().Count(root) != 0 || b.Pool().Count(last) != 1 {
		t.Error(b.Pool().Count(root), b.Pool().Count(last))
	}
	if _, e := b.Get(root); e != api.ErrFree {
		t.Error("the elder root is there still:", e)
	}
	b.wantCounts(t, next, last)
}

func TestApplyOfWrongKeys(t *testing.T) {
	b := fresh(t, 60, 3)
	root := b.built(t, upTo(30)...)
	for _, key := range wrongKeys {
		for _, page := range []int{api.None, b.blocks[0], 59, 60, -2, math.MaxInt} {
			b.wantStays(t, func() {
				// Ahead of the store's errors: no root is asked.
				for _, at := range []int{root, api.None, b.blocks[0], 59, 60, -2, math.MinInt, math.MaxInt} {
					b.wantNoApply(t, api.ErrBlock, at, api.Change{Key: key, Page: page})
					b.wantNoApply(t, api.ErrBlock, at, api.Change{Key: key, Page: page}, api.Change{Key: 1, Page: b.blocks[0]})
				}
			})
			// Behind good ones.
			for _, good := range [][]api.Change{{{Key: 1, Page: b.blocks[0]}}, {{Key: 1, Page: api.None}}, {{Key: 40, Page: b.blocks[0]}, {Key: 2, Page: api.None}, {Key: 41, Page: api.None}}} {
				b.wantUndone(t, func() { b.wantNoApply(t, api.ErrBlock, root, append(good, api.Change{Key: key, Page: page})...) })
				b.wantList(t, root, b.of(upTo(30)...)...)
				b.wantCounts(t, root)
			}
		}
	}
	// What was done is done: the root that was handed in is dropped.
	b.wantNoApply(t, api.ErrBlock, root, api.Change{Key: 1, Page: b.blocks[0]}, api.Change{Key: 64, Page: api.None})
	if b.Pool().Count(root) != 0 {
		t.Error("the root is held", b.Pool().Count(root), "times")
	}
}

// TestApplyOfWrongPages: that nobody has, that there isn't, or that is no number of a page.
func TestApplyOfWrongPages(t *testing.T) {
	b := fresh(t, 60, 3)
	root := b.built(t, upTo(30)...)
	for page, want := range map[int]api.Errno{58: api.ErrFree, 59: api.ErrFree, 60: api.ErrFree, 239: api.ErrFree, 240: api.ErrNode, -2: api.ErrNode, 256: api.ErrNode, 1 << 32: api.ErrNode, math.MinInt: api.ErrNode, math.MaxInt: api.ErrNode} {
		for _, key := range []int{0, 5, 29, 30, 63} {
			for _, good := range [][]api.Change{nil, {{Key: 1, Page: b.blocks[0]}}, {{Key: 40, Page: b.blocks[0]}, {Key: 2, Page: api.None}}} {
				b.wantUndone(t, func() {
					b.wantNoApply(t, want, root, append(slices.Clone(good), api.Change{Key: key, Page: page})...)
				})
				b.wantUndone(t, func() {
					b.wantNoApply(t, want, root, append(slices.Clone(good), api.Change{Key: key, Page: page}, api.Change{Key: 64})...)
				})
			}
			b.wantUndone(t, func() { b.wantNoApply(t, want, api.None, api.Change{Key: key, Page: page}) })
		}
		b.wantList(t, root, b.of(upTo(30)...)...)
		b.wantCounts(t, root)
	}
}

// TestNoTree: a root that there isn't, that nobody has, or that is a block.
func TestNoTree(t *testing.T) {
	b := fresh(t, 30, 2)
	root := b.built(t, upTo(12)...)
	gone := b.built(t, 1, 2)
	b.swap(t, gone, api.None)
	wrong := map[int]api.Errno{b.blocks[0]: api.ErrNode, b.blocks[1]: api.ErrNode}
	for _, page := range []int{-2, -3, -4, -5, gone, 28, 29, 30, 34, 239, 240, 256, 1 << 32, math.MinInt, math.MinInt + 4, math.MaxInt, math.MaxInt - 3} {
		wrong[page] = api.ErrFree
	}
	b.wantStays(t, func() {
		for bad, want := range wrong {
			for _, other := range []int{api.None, root, bad} {
				b.wantNoChanges(t, bad, other, want)
				b.wantNoChanges(t, other, bad, want)
				b.wantNoShared(t, bad, other, want)
				b.wantNoShared(t, other, bad, want)
			}
			for _, x := range []api.Change{{Key: 0, Page: b.blocks[0]}, {Key: 63, Page: b.blocks[1]}, {Key: 0, Page: api.None}, {Key: 63, Page: api.None}} {
				b.wantNoApply(t, want, bad, x)
				b.wantNoApply(t, want, bad, x, api.Change{Key: 64})
			}
		}
		b.wantNoChanges(t, b.blocks[0], gone, api.ErrNode)
		b.wantNoChanges(t, gone, b.blocks[0], api.ErrFree)
		b.wantNoShared(t, b.blocks[0], gone, api.ErrNode)
		b.wantNoShared(t, gone, b.blocks[0], api.ErrFree)
	})
	// Below the root, too.
	low := b.rooted(t, innerOf(1, b.made(t, leafOf(1, b.blocks[0])), 5, b.blocks[1], 9, 2))
	b.wantStays(t, func() {
		b.wantNoChanges(t, low, root, api.ErrNode)
		b.wantNoChanges(t, root, low, api.ErrNode)
		b.wantNoShared(t, low, api.None, api.ErrNode)
		b.wantNoApply(t, api.ErrNode, low, api.Change{Key: 6, Page: api.None})
		b.wantNoApply(t, api.ErrNode, low, api.Change{Key: 6, Page: b.blocks[0]})
	})
}

func TestApplyWithoutPower(t *testing.T) {
	b := fresh(t, 60, 3)
	root := b.built(t, upTo(30)...)
	l := []api.Change{{Key: 29, Page: api.None}, {Key: 3, Page: b.blocks[2]}, {Key: 40, Page: b.blocks[0]}}
	for acts := range 9 {
		b.d.Cut(acts)
		b.wantUndone(t, func() { b.wantNoApply(t, api.ErrPower, root, l...) })
		if !b.d.Down() {
			t.Error("it isn't down")
		}
		b.wantStays(t, func() {
			b.wantApply(t, root)
			b.wantApply(t, root, api.Change{Key: 50, Page: api.None})
		})
		b.d.Crash(slices.Repeat([]byte{255}, len(b.d.Pending()))...)
		b.wantList(t, root, b.of(upTo(30)...)...)
		b.wantCounts(t, root)
	}
	b.d.Cut(9)
	b.wantCounts(t, b.wantApply(t, root, l...))
}

// TestApplyWithTooFewPages: none that is free, or one too few.
func TestApplyWithTooFewPages(t *testing.T) {
	for _, count := range []int{0, 1, 6, 7, 21, 22, 64} {
		b := fresh(t, 120, 3)
		root := b.built(t, upTo(count)...)
		changes := [][]api.Change{{{Key: 0, Page: b.blocks[1]}}, {{Key: 63, Page: b.blocks[1]}}, {{Key: 5, Page: api.None}}, {{Key: 0, Page: api.None}}}
		needs := make([]int, len(changes))
		for i, l := range changes {
			b.wantUndone(t, func() {
				free := b.Pool().Free()
				next, e := b.one(root, l[0])
				if e != api.OK {
					t.Fatal(next, e)
				}
				needs[i] = free - b.Pool().Free()
			})
		}
		for free := 6; free >= 0; free-- {
			b.leave(t, free)
			for i, l := range changes {
				b.wantUndone(t, func() {
					if needs[i] > free {
						b.wantNoApply(t, api.ErrSpace, root, append(l, api.Change{Key: 64})...)
					} else {
						b.wantApply(t, root, l...)
					}
				})
			}
			// What the first change needs, the second one doesn't find.
			if free == needs[0] {
				b.wantUndone(t, func() {
					b.hold(t, max(root, 0))
					b.wantNoApply(t, api.ErrSpace, root, changes[0][0], changes[1][0])
				})
			}
			b.wantList(t, root, b.of(upTo(count)...)...)
		}
	}
}

// TestApplyInLittleRoom: what one change made and the next one leaves out is free at once.
func TestApplyInLittleRoom(t *testing.T) {
	b := fresh(t, 60, 3)
	root := b.built(t, upTo(64)...)
	b.leave(t, 5)
	r := rand.New(rand.NewSource(1))
	var l []api.Change
	for range 500 {
		l = append(l, api.Change{Key: r.Intn(64), Page: b.blocks[r.Intn(3)]})
	}
	next := b.wantApply(t, root, l...)
	if n, e := b.List(next); len(n) != 64 || e != api.OK {
		t.Error(n, e)
	}
}

// TestHeldTooOften: what is held 255 times can't be held once more.
func TestHeldTooOften(t *testing.T) {
	b := fresh(t, 60, 2)
	often, other := b.blocks[0], b.blocks[1]
	root := b.rooted(t, leafOf(1, often, 2, other, 3, other))
	b.holdOften(t, often, 255)
	b.wantUndone(t, func() { b.wantNoApply(t, api.ErrCount, root, api.Change{Key: 2, Page: api.None}) })
	b.wantUndone(t, func() { b.wantNoApply(t, api.ErrCount, root, api.Change{Key: 2, Page: other}) })
	b.wantUndone(t, func() { b.wantNoApply(t, api.ErrCount, api.None, api.Change{Key: 2, Page: often}) })
	b.wantUndone(t, func() {
		b.wantNoApply(t, api.ErrCount, root, api.Change{Key: 1, Page: other}, api.Change{Key: 60, Page: other}, api.Change{Key: 1, Page: often}, api.Change{Key: 2, Page: often})
	})
	b.wantUndone(t, func() {
		b.wantList(t, b.wantApply(t, root, api.Change{Key: 1, Page: other}), entries(1, other, 2, other, 3, other)...)
	})

	// A root that stays isn't held once more; one that is left as the only child can't be.
	b.holdOften(t, root, 255)
	b.wantStays(t, func() { b.wantApply(t, root, api.Change{Key: 4, Page: api.None}) })
	beside := b.rooted(t, leafOf(30, other))
	two := b.rooted(t, innerOf(3, b.made(t, leafOf(3, other)), 30, beside))
	b.holdOften(t, beside, 255)
	b.wantUndone(t, func() { b.wantNoApply(t, api.ErrCount, two, api.Change{Key: 3, Page: api.None}) })
	b.wantStays(t, func() {
		b.wantChanges(t, two, beside, api.Change{Key: 3, Page: api.None})
		b.wantShared(t, two, beside, beside)
	})
}

// TestApplyOfWhatCantBeRead: the first error, of a node on the way.
func TestApplyOfWhatCantBeRead(t *testing.T) {
	b := fresh(t, 60, 3)
	root := b.laid(t, "(((0) (1) (2)) ((20 21) (30 31)))")
	for _, text := range []string{"(((0) (1) (2)) ((20 21) (30 31)))", "((20 21) (30 31))", "(30 31)"} {
		page := b.page(t, root, text) + api.FirstPage
		b.d.Spoil(page, true)
		for _, x := range []api.Change{{Key: 31, Page: api.None}, {Key: 40, Page: api.None}, {Key: 40, Page: b.blocks[0]}, {Key: 31, Page: b.blocks[0]}} {
			b.wantUndone(t, func() { b.wantNoApply(t, api.ErrFault, root, x, api.Change{Key: 64}) })
			if text == "(30 31)" {
				b.wantUndone(t, func() { b.wantNoApply(t, api.ErrFault, root, api.Change{Key: 0, Page: b.blocks[1]}, x) })
			}
		}
		b.d.Spoil(page, false)
	}
	b.wantCounts(t, root)
}

// TestGivenUpBlock: what a change gives up is asked for what is under it; if it can't be read, that is the error.
func TestGivenUpBlock(t *testing.T) {
	for _, page := range []int{api.None, 0} {
		b := fresh(t, 40, 2)
		block := b.made(t, data(9))
		root := b.rooted(t, leafOf(3, block, 4, b.blocks[1]))
		b.d.Spoil(block+api.FirstPage, true)
		x := api.Change{Key: 3, Page: page}
		b.wantUndone(t, func() { b.wantNoApply(t, api.ErrFault, root, x) })
		b.wantUndone(t, func() {
			b.wantNoApply(t, api.ErrFault, root, api.Change{Key: 4, Page: b.blocks[0]}, x, api.Change{Key: 64})
		})
		b.wantUndone(t, func() { b.wantApply(t, root, api.Change{Key: 4, Page: page}) })
		b.hold(t, root)
		next := b.wantApply(t, root, x)
		b.wantChanges(t, root, next, x)
		b.wantChanges(t, next, root, api.Change{Key: 3, Page: block})
	}
}

// TestMaxHeight: eight nodes above one another are a tree; one more is gone down no more.
func TestMaxHeight(t *testing.T) {
	for height := 1; height <= 12; height++ {
		b := fresh(t, 60, 2)
		low := b.rooted(t, leafOf(7, b.blocks[0], 9, b.blocks[1]))
		root, other := low, b.rooted(t, leafOf(7, b.blocks[1]))
		for range height - 1 {
			root = b.made(t, innerOf(7, root))
		}
		b.hold(t, root)
		if height <= api.MaxHeight {
			b.wantDiffer(t, root, other)
			b.wantDiffer(t, root, low)
			b.wantShared(t, root, low, low)
			b.wantChanges(t, other, root, api.Change{Key: 7, Page: b.blocks[0]}, api.Change{Key: 9, Page: b.blocks[1]})
			next := b.wantApply(t, root, api.Change{Key: 7, Page: api.None})
			b.wantList(t, next, entries(9, b.blocks[1])...)
			continue
		}
		b.wantStays(t, func() {
			b.wantNoChanges(t, root, other, api.ErrNode)
			b.wantNoChanges(t, other, root, api.ErrNode)
			b.wantNoShared(t, root, low, api.ErrNode)
			b.wantNoShared(t, low, root, api.ErrNode)
			b.wantNoApply(t, api.ErrNode, root, api.Change{Key: 7, Page: api.None})
			b.wantNoApply(t, api.ErrNode, root, api.Change{Key: 7, Page: b.blocks[0]})
		})
	}
}

// ends: all calls answer something, and beside an error nothing.
func (b *bed) ends(t *testing.T, one, two int, l ...api.Change) {
	t.Helper()
	b.wantStays(t, func() {
		changes, e := b.Changes(one, two)
		if e != api.OK && len(changes) != 0 || len(changes) > 64 {
			t.Fatal(one, two, changes, e)
		}
		if !slices.IsSortedFunc(changes, func(x, y api.Change) int { return cmp.Compare(x.Key, y.Key) }) {
			t.Fatal(one, two, changes)
		}
		shared, e := b.Shared(one, two)
		if e != api.OK && len(shared) != 0 || !slices.IsSorted(shared) {
			t.Fatal(one, two, shared, e)
		}
	})
	if next, e := b.Apply(one, l...); e != api.OK && next != api.None {
		t.Fatal(one, l, next, e)
	}
}

// TestUnderItself: a node that is among its own children, or is so by way of others: the calls end.
func TestUnderItself(t *testing.T) {
	b := fresh(t, 40, 1)
	k := b.blocks[0]
	one := b.made(t, leafOf(0, k))
	x := b.rooted(t, innerOf(0, one))
	y := b.rooted(t, innerOf(0, x))
	other := b.built(t, upTo(9)...)
	for _, n := range []api.Node{
		innerOf(0, x), innerOf(0, one, 1, x), innerOf(0, x, 1, one), innerOf(0, y), innerOf(0, one, 9, y),
		innerOf(0, x, 1, x, 2, x, 3, x, 4, x, 5, x), innerOf(0, one, 1, x, 2, x, 3, x, 4, x, 5, x), innerOf(0, one, 1, y, 2, x, 3, y, 4, x, 5, y),
	} {
		b.lay(t, x, n)
		for _, roots := range [][2]int{{x, other}, {y, other}, {other, x}, {other, y}, {x, y}, {y, x}, {x, x}, {y, y}, {api.None, x}, {y, api.None}} {
			for key := -1; key <= 64; key += 5 {
				b.wantUndone(t, func() { b.ends(t, roots[0], roots[1], api.Change{Key: key, Page: k}) })
				b.wantUndone(t, func() { b.ends(t, roots[0], roots[1], api.Change{Key: key, Page: api.None}) })
			}
		}
		b.wantStays(t, func() {
			b.wantNoChanges(t, x, other, api.ErrNode)
			b.wantNoChanges(t, other, x, api.ErrNode)
			b.wantNoShared(t, x, x, api.ErrNode)
			b.wantNoShared(t, y, api.None, api.ErrNode)
		})
	}
	for _, n := range []api.Node{leafOf(0, x), leafOf(0, y, 1, x)} {
		b.lay(t, x, n)
		b.wantUndone(t, func() { b.ends(t, x, y, api.Change{Key: 0, Page: k}) })
		b.wantUndone(t, func() { b.ends(t, y, x, api.Change{Key: 0, Page: api.None}) })
	}
}

// TestSameChildManyTimes: at each depth six times; that are more ways down than can be gone.
func TestSameChildManyTimes(t *testing.T) {
	for height := 2; height <= 12; height++ {
		for _, text := range []string{"(0 1)", "((0) (1))"} {
			b := fresh(t, 60, 1)
			low := b.laid(t, text)
			root := low
			for range height - 1 {
				root = b.made(t, innerOf(0, root, 1, root, 2, root, 3, root, 4, root, 5, root))
			}
			b.hold(t, root)
			other := b.rooted(t, innerOf(0, root, 3, root))
			for _, roots := range [][2]int{{root, low}, {low, root}, {root, other}, {other, root}, {root, root}, {other, api.None}} {
				b.wantUndone(t, func() { b.ends(t, roots[0], roots[1], api.Change{Key: 3, Page: b.blocks[0]}) })
				b.wantUndone(t, func() { b.ends(t, roots[0], roots[1], api.Change{Key: 0, Page: api.None}) })
			}
			b.wantStays(t, func() {
				b.wantNoShared(t, root, low, api.ErrNode)
				b.wantNoChanges(t, api.None, root, api.ErrNode)
				b.wantChanges(t, root, root)
			})
		}
	}
}

// TestWhateverStandsThere: nodes of any children on a disk, and any calls: all end.
func TestWhateverStandsThere(t *testing.T) {
	r := rand.New(rand.NewSource(11))
	good := 0
	for range 500 {
		size := 1 + r.Intn(20)
		b := fresh(t, size, 0)
		for range size {
			page, _ := b.Pool().Take()
			for range r.Intn(3) {
				b.Hold(page)
			}
			n := api.Node{Kind: api.KindLeaf + r.Intn(2)}
			for key := r.Intn(8); key < 64 && len(n.Entries) < 6; key += 1 + r.Intn(20) {
				n.Entries = append(n.Entries, api.Entry{Key: key, Page: r.Intn(size)})
			}
			if r.Intn(8) == 0 {
				n = data(1)
			}
			b.lay(t, page, n)
			if r.Intn(8) == 0 {
				b.d.Spoil(page+api.FirstPage, true)
			}
			if r.Intn(6) == 0 {
				b.Drop(page)
			}
		}
		for range 40 {
			one, two := r.Intn(size+3)-2, r.Intn(size+3)-2
			var l []api.Change
			for range r.Intn(4) {
				l = append(l, api.Change{Key: r.Intn(68) - 2, Page: r.Intn(size+4) - 3})
			}
			b.ends(t, one, two, l...)
			if l, e := b.Changes(one, two); e == api.OK && len(l) > 0 {
				good++
			}
		}
	}
	if good == 0 {
		t.Error("no changes")
	}
}

// TestUndo: whatever a store with too few pages did, Undo brings back all trees.
func TestUndo(t *testing.T) {
	r := rand.New(rand.NewSource(13))
	failed := 0
	for range 40 {
		b := fresh(t, 14+r.Intn(10), 3)
		root := b.built(t, r.Perm(64)[:16]...)
		for range 60 {
			b.Pool().Tidy()
			mark := b.Mark()
			list, _ := b.List(root)
			next, e := b.Apply(root, b.mixed(r, r.Intn(4))...)
			if e != api.OK {
				failed++
				b.Undo(mark)
				next = root
				b.wantList(t, root, list...)
			}
			if e != api.OK && e != api.ErrSpace {
				t.Fatal(e)
			}
			root = next
			b.wantCounts(t, root)
			if r.Intn(10) == 0 {
				b.Pool().Commit()
			}
		}
	}
	if failed == 0 {
		t.Error("nothing failed")
	}
}

// TestArgumentsStay: what is handed in isn't changed, spare room included.
func TestArgumentsStay(t *testing.T) {
	b := fresh(t, 60, 3)
	room := slices.Concat(b.mixed(rand.New(rand.NewSource(2)), 30), []api.Change{{Key: 64}, {Key: -1}})
	was := slices.Clone(room)
	for count := range len(room) + 1 {
		b.wantUndone(t, func() {
			root := b.built(t, upTo(40)...)
			b.Apply(root, room[:count]...)
		})
		if !slices.Equal(room, was) {
			t.Fatal("what was handed in was changed:", room)
		}
	}
}

// TestAnswersAreNew: what was answered may be written over, spare room too.
func TestAnswersAreNew(t *testing.T) {
	b := fresh(t, 120, 3)
	one := b.built(t, upTo(40)...)
	two := b.altered(t, one, b.mixed(rand.New(rand.NewSource(2)), 9)...)
	for _, roots := range [][2]int{{one, two}, {two, one}, {api.None, one}, {two, api.None}, {one, one}} {
		l, _ := b.Changes(roots[0], roots[1])
		clear(l[:cap(l)])
		s, _ := b.Shared(roots[0], roots[1])
		clear(s[:cap(s)])
		b.wantDiffer(t, roots[0], roots[1])
	}
	l, _ := b.Changes(one, two)
	kept := slices.Clone(l)
	m, _ := b.Changes(one, two)
	clear(m[:cap(m)])
	b.swap(t, two, b.wantApply(t, one, l...))
	if !slices.Equal(l, kept) {
		t.Error("an answer was changed:", l)
	}
}

// TestSameAgain: what is answered hangs on what was done alone.
func TestSameAgain(t *testing.T) {
	run := func() ([]api.Change, []int, pool.Pool) {
		r := rand.New(rand.NewSource(17))
		b := fresh(t, 240, 3)
		root := b.built(t, upTo(64)...)
		var l []api.Change
		var pages []int
		for range 100 {
			b.hold(t, root)
			next := b.wantApply(t, root, b.mixed(r, r.Intn(5))...)
			changes, _ := b.Changes(root, next)
			shared, _ := b.Shared(root, next)
			l, pages = append(l, changes...), append(append(pages, shared...), next)
			b.drop(t, root)
			root = next
		}
		return l, pages, *b.Pool()
	}
	l, pages, v := run()
	for range 3 {
		if k, others, w := run(); !slices.Equal(k, l) || !slices.Equal(others, pages) || w != v {
			t.Fatal("another time it was otherwise")
		}
	}
}

// TestPrunerIsItsOwn: the pruner's calls, the trees', and the store's, are the differ's.
func TestPrunerIsItsOwn(t *testing.T) {
	b := fresh(t, 40, 1)
	other := Differ{Pruner: b.Pruner}
	root, e := other.Build(b.of(1, 2)...)
	if e != api.OK || other.Pool() != b.Pool() {
		t.Fatal(root, e)
	}
	next, was, e := other.Cut(root, 1)
	if e != api.OK || !was {
		t.Fatal(next, was, e)
	}
	b.wantChanges(t, root, next, api.Change{Key: 1, Page: api.None})
	if l, e := other.Changes(next, root); !slices.Equal(l, []api.Change{{Key: 1, Page: b.blocks[0]}}) || e != api.OK {
		t.Error(l, e)
	}
}
