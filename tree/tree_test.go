package tree

import (
	"math"
	"math/rand"
	"slices"
	"strconv"
	"strings"
	"testing"

	"understudy/api"
	"understudy/disk"
	"understudy/leaf"
	"understudy/nodes"
	"understudy/pool"
	"understudy/tally"
)

// wrongKeys: keys that there aren't.
var wrongKeys = []int{-1, -2, -64, 64, 65, 127, 128, 255, 256, 320, 1 << 32, 1<<32 + 1, math.MinInt, math.MinInt + 1, math.MaxInt - 1, math.MaxInt}

// entries: of keys and pages, by turns.
func entries(l ...int) []api.Entry {
	var x []api.Entry
	for i := 0; i < len(l); i += 2 {
		x = append(x, api.Entry{Key: l[i], Page: l[i+1]})
	}
	return x
}

// ofKeys: entries of these keys, all of one page.
func ofKeys(page int, keys ...int) []api.Entry {
	var x []api.Entry
	for _, key := range keys {
		x = append(x, api.Entry{Key: key, Page: page})
	}
	return x
}

// upTo: so many numbers from 0 on.
func upTo(n int) []int {
	l := make([]int, n)
	for i := range l {
		l[i] = i
	}
	return l
}

func data(c byte) api.Node { return api.Node{Kind: api.KindData, Block: api.Block{c, 15: ^c}} }

func leafOf(l ...int) api.Node { return api.Node{Kind: api.KindLeaf, Entries: entries(l...)} }

func innerOf(l ...int) api.Node { return api.Node{Kind: api.KindInner, Entries: entries(l...)} }

// bed is trees, the disk they stand on, and blocks that are held once beside them.
type bed struct {
	Tree
	d      *disk.Disk
	blocks []int
}

// fresh: a store of so many pages, of which the first ones are so many blocks.
func fresh(t *testing.T, size, blocks int) *bed {
	t.Helper()
	b := &bed{d: disk.New(size + api.FirstPage)}
	b.Tree = Tree{Store: nodes.New(b.d, pool.New(size))}
	for i := range blocks {
		b.blocks = append(b.blocks, b.rooted(t, data(byte(i))))
	}
	return b
}

func (b *bed) made(t *testing.T, n api.Node) int {
	t.Helper()
	page, e := b.Make(n)
	if e != api.OK {
		t.Fatalf("Make of %v: %d, %d", n, page, e)
	}
	return page
}

// rooted: a node that is made, and held as a root.
func (b *bed) rooted(t *testing.T, n api.Node) int {
	t.Helper()
	page := b.made(t, n)
	if e := b.Hold(page); e != api.OK {
		t.Fatalf("Hold of %d: %d", page, e)
	}
	return page
}

// lay: whatever one likes stands on a page, beside the store.
func (b *bed) lay(t *testing.T, page int, n api.Node) {
	t.Helper()
	p, e := leaf.Page(n)
	if e != api.OK || b.d.Write(page+api.FirstPage, p) != api.OK {
		t.Fatal(page, n, e)
	}
}

// holdOften: a page is held so often.
func (b *bed) holdOften(t *testing.T, page, times int) {
	t.Helper()
	for b.Pool().Count(page) < times {
		if e := b.Hold(page); e != api.OK {
			t.Fatalf("Hold of %d: %d", page, e)
		}
	}
}

// leave: just so many pages stay free.
func (b *bed) leave(t *testing.T, free int) {
	t.Helper()
	for b.Pool().Free() > free {
		if page, e := b.Pool().Take(); e != api.OK || b.Hold(page) != api.OK {
			t.Fatal(page, e)
		}
	}
}

// built: a tree of these keys, all of the first block, held once.
func (b *bed) built(t *testing.T, keys ...int) int {
	t.Helper()
	root, e := b.Build(ofKeys(b.blocks[0], keys...)...)
	if e != api.OK {
		t.Fatalf("Build of %v: %d, %d", keys, root, e)
	}
	return root
}

// wantPut: a tree whose root isn't held yet.
func (b *bed) wantPut(t *testing.T, root, key, page int) int {
	t.Helper()
	next, e := b.Put(root, key, page)
	if e != api.OK || b.Pool().Count(next) != 0 || !b.Pool().Fresh(next) {
		t.Fatalf("Put of %d, %d in %d: %d, %d, held %d times", key, page, root, next, e, b.Pool().Count(next))
	}
	return next
}

func (b *bed) wantNoPut(t *testing.T, root, key, page int, want api.Errno) {
	t.Helper()
	if next, e := b.Put(root, key, page); next != api.None || e != want {
		t.Errorf("Put of %d, %d in %d: %d, %d, not None, %d", key, page, root, next, e, want)
	}
}

func (b *bed) wantSwap(t *testing.T, old, next int, want api.Errno) {
	t.Helper()
	if e := b.Swap(old, next); e != want {
		t.Errorf("Swap of %d and %d: %d, not %d", old, next, e, want)
	}
}

func (b *bed) wantFind(t *testing.T, root, key, want int) {
	t.Helper()
	if page, e := b.Find(root, key); page != want || e != api.OK {
		t.Errorf("Find of %d in %d: %d, %d, not %d", key, root, page, e, want)
	}
}

func (b *bed) wantList(t *testing.T, root int, want ...api.Entry) {
	t.Helper()
	if l, e := b.List(root); !slices.Equal(l, want) || e != api.OK {
		t.Errorf("List of %d: %v, %d, not %v", root, l, e, want)
	}
}

func (b *bed) wantHeight(t *testing.T, root, want int) {
	t.Helper()
	if h, e := b.Height(root); h != want || e != api.OK {
		t.Errorf("Height of %d: %d, %d, not %d", root, h, e, want)
	}
}

// wantNone: Find of keys, List and Height have that error, and nothing beside it.
func (b *bed) wantNone(t *testing.T, root int, want api.Errno, keys ...int) {
	t.Helper()
	for _, key := range keys {
		if page, e := b.Find(root, key); page != api.None || e != want {
			t.Errorf("Find of %d in %d: %d, %d, not None, %d", key, root, page, e, want)
		}
	}
	if l, e := b.List(root); len(l) != 0 || e != want {
		t.Errorf("List of %d: %v, %d, not %d", root, l, e, want)
	}
	if h, e := b.Height(root); h != 0 || e != want {
		t.Errorf("Height of %d: %d, %d, not 0, %d", root, h, e, want)
	}
}

func (b *bed) wantFree(t *testing.T, want int) {
	t.Helper()
	if n := b.Pool().Free(); n != want {
		t.Errorf("%d pages are free, not %d", n, want)
	}
}

// view is what a pool tells.
type view struct {
	free   int
	counts tally.Counts
	fresh  [api.MaxPool]bool
	taken  [api.MaxPool]int
}

func seen(p *pool.Pool) view {
	v := view{free: p.Free(), counts: p.Counts()}
	k := p.Clone()
	for i := range v.fresh {
		v.fresh[i] = p.Fresh(i)
		v.taken[i], _ = k.Take()
	}
	return v
}

// wantStays: what is done changes neither the pool nor the disk.
func (b *bed) wantStays(t *testing.T, do func()) {
	t.Helper()
	was, writes := seen(b.Pool()), b.d.Pending()
	do()
	if seen(b.Pool()) != was {
		t.Error("the pool was changed")
	}
	if !slices.Equal(b.d.Pending(), writes) {
		t.Error("the disk was written:", b.d.Pending(), writes)
	}
}

// wantUndone: what is done, Undo makes undone.
func (b *bed) wantUndone(t *testing.T, do func()) {
	t.Helper()
	mark := b.Mark()
	do()
	b.Undo(mark)
	if seen(b.Pool()) != seen(mark) {
		t.Error("Undo left something")
	}
}

// drawn: the keys of a tree, in brackets by its nodes, which are held against what a tree is on the way.
func (b *bed) drawn(t *testing.T, root int) string {
	t.Helper()
	if root == api.None {
		return ""
	}
	text, _, _ := b.draw(t, root)
	return text
}

// draw: of a page the picture, the least key, and the height.
func (b *bed) draw(t *testing.T, page int) (string, int, int) {
	t.Helper()
	n, e := b.Get(page)
	if e != api.OK || n.Kind == api.KindData {
		t.Fatalf("page %d of a tree: %v, %d", page, n, e)
	}
	var parts []string
	height := 0
	for i, x := range n.Entries {
		if n.Kind == api.KindLeaf {
			parts = append(parts, strconv.Itoa(x.Key))
			continue
		}
		text, least, h := b.draw(t, x.Page)
		if least != x.Key || i > 0 && h != height {
			t.Fatalf("page %d, below %d: the key %d, not %d; or the height %d", x.Page, page, least, x.Key, h)
		}
		parts, height = append(parts, text), h
	}
	return "(" + strings.Join(parts, " ") + ")", n.Entries[0].Key, height + 1
}

func (b *bed) wantDrawn(t *testing.T, root int, want string) {
	t.Helper()
	if text := b.drawn(t, root); text != want {
		t.Errorf("the tree %d: %s, not %s", root, text, want)
	}
}

// inside: the nodes of a tree, without the blocks' pages, rising.
func (b *bed) inside(t *testing.T, root int) []int {
	t.Helper()
	l, e := b.Reach(root)
	if e != api.OK {
		t.Fatal(root, e)
	}
	return slices.DeleteFunc(l, func(page int) bool {
		n, _ := b.Get(page)
		return n.Kind == api.KindData
	})
}

// way: the nodes from the root to the key's leaf.
func (b *bed) way(t *testing.T, root, key int) []int {
	t.Helper()
	var l []int
	for page := root; page != api.None; {
		l = append(l, page)
		n, e := b.Get(page)
		if e != api.OK {
			t.Fatal(page, e)
		}
		page = api.None
		if n.Kind == api.KindInner {
			page = n.Entries[0].Page
			for _, x := range n.Entries {
				if x.Key <= key {
					page = x.Page
				}
			}
		}
	}
	return l
}

func without(l, others []int) []int {
	return slices.DeleteFunc(slices.Clone(l), func(page int) bool { return slices.Contains(others, page) })
}

// wantCounts: each page is held as often as it is among the roots, the blocks, and the children of the nodes of the roots' trees.
func (b *bed) wantCounts(t *testing.T, roots ...int) {
	t.Helper()
	var want tally.Counts
	for _, block := range b.blocks {
		want[block]++
	}
	var all []int
	for _, root := range roots {
		if root != api.None {
			want[root]++
			all = append(all, b.inside(t, root)...)
		}
	}
	slices.Sort(all)
	for _, page := range slices.Compact(all) {
		n, _ := b.Get(page)
		for _, x := range n.Entries {
			want[x.Page]++
		}
	}
	if got := b.Pool().Counts(); got != want {
		t.Fatalf("counts: %v, not %v", got, want)
	}
}

// grown is a tree in memory: what a store's must look like.
type grown struct {
	key  int
	kids []*grown
}

// split: one, or two, of a node's parts.
func split(l []*grown) []*grown {
	if len(l) <= 6 {
		return []*grown{{key: l[0].key, kids: l}}
	}
	half := len(l) / 2
	return []*grown{{key: l[0].key, kids: l[:half:half]}, {key: l[half].key, kids: l[half:]}}
}

// put: what stands in the place of g, of that height.
func (g *grown) put(key, height int) []*grown {
	i := 0
	for i+1 < len(g.kids) && g.kids[i+1].key <= key {
		i++
	}
	kids := slices.Clone(g.kids)
	if height > 1 {
		return split(slices.Replace(kids, i, i+1, g.kids[i].put(key, height-1)...))
	}
	if slices.ContainsFunc(kids, func(k *grown) bool { return k.key == key }) {
		return split(kids)
	}
	kids = append(kids, &grown{key: key})
	slices.SortFunc(kids, func(a, b *grown) int { return a.key - b.key })
	return split(kids)
}

func (g *grown) text() string {
	if len(g.kids) == 0 {
		return strconv.Itoa(g.key)
	}
	var parts []string
	for _, k := range g.kids {
		parts = append(parts, k.text())
	}
	return "(" + strings.Join(parts, " ") + ")"
}

// pictured: the tree of keys that were put in one behind the other, and its height.
func pictured(keys ...int) (string, int) {
	if len(keys) == 0 {
		return "", 0
	}
	top, height := &grown{}, 1
	for _, key := range keys {
		l := top.put(key, height)
		top = l[0]
		if len(l) > 1 {
			top, height = split(l)[0], height+1
		}
	}
	return top.text(), height
}

func TestLimits(t *testing.T) {
	if api.MaxEntries != 6 || api.MaxHeight != 8 || api.MaxBlocks != 64 || api.None != -1 || api.KindLeaf != 2 || api.KindInner != 3 {
		t.Error(api.MaxEntries, api.MaxHeight, api.MaxBlocks, api.None, api.KindLeaf, api.KindInner)
	}
	if api.ErrPage != 41 || api.ErrPower != 42 || api.ErrFault != 43 || api.ErrSpace != 71 || api.ErrCount != 72 || api.ErrFree != 73 || api.ErrNode != 81 || api.ErrBlock != 101 {
		t.Error("an error has another number")
	}
}

func TestExample(t *testing.T) {
	b := fresh(t, 8, 1)
	root := b.wantPut(t, api.None, 5, b.blocks[0])
	if n, e := b.Get(root); !leaf.Same(n, leafOf(5, b.blocks[0])) || e != api.OK {
		t.Error("not a leaf:", n, e)
	}
	b.wantFind(t, root, 5, b.blocks[0])
	b.wantHeight(t, root, 1)
	b.wantFree(t, 6)
}

// TestNothing: None is a tree in which nothing is.
func TestNothing(t *testing.T) {
	b := fresh(t, 8, 1)
	b.wantStays(t, func() {
		for _, key := range append(upTo(64), wrongKeys...) {
			b.wantFind(t, api.None, key, api.None)
		}
		b.wantList(t, api.None)
		b.wantHeight(t, api.None, 0)
	})
	// Not even a disk is asked.
	none := fresh(t, 0, 0)
	none.wantFind(t, api.None, 1, api.None)
	none.wantList(t, api.None)
	none.wantHeight(t, api.None, 0)
}

// TestFindByHand: a tree of three levels that no Put made.
func TestFindByHand(t *testing.T) {
	b := fresh(t, 20, 4)
	k, l, m, n := b.blocks[0], b.blocks[1], b.blocks[2], b.blocks[3]
	one, two, three := b.made(t, leafOf(4, k, 9, l)), b.made(t, leafOf(20, m)), b.made(t, leafOf(40, n, 63, k))
	root := b.rooted(t, innerOf(2, b.made(t, innerOf(3, one, 20, two)), 33, b.made(t, innerOf(33, three))))
	b.wantStays(t, func() {
		there := map[int]int{4: k, 9: l, 20: m, 40: n, 63: k}
		for key := -3; key < 70; key++ {
			want, ok := there[key]
			if !ok {
				want = api.None
			}
			b.wantFind(t, root, key, want)
		}
		for _, key := range wrongKeys {
			b.wantFind(t, root, key, api.None)
		}
		b.wantList(t, root, entries(4, k, 9, l, 20, m, 40, n, 63, k)...)
		b.wantHeight(t, root, 3)
		b.wantHeight(t, two, 1)
		b.wantList(t, two, entries(20, m)...)
		b.wantFind(t, two, 20, m)
	})
	// Ways that aren't gone aren't read.
	b.d.Spoil(three+api.FirstPage, true)
	b.wantFind(t, root, 20, m)
	b.wantHeight(t, root, 3)
	if page, e := b.Find(root, 40); page != api.None || e != api.ErrFault {
		t.Error(page, e)
	}
	if l, e := b.List(root); len(l) != 0 || e != api.ErrFault {
		t.Error(l, e)
	}
}

// orders: all 64 keys, in several orders.
func orders() map[string][]int {
	rising := upTo(64)
	falling := slices.Clone(rising)
	slices.Reverse(falling)
	l := map[string][]int{"rising": rising, "falling": falling}
	for _, step := range []int{5, 27, 37} {
		var mixed []int
		for i := range 64 {
			mixed = append(mixed, i*step%64)
		}
		l["by steps of "+strconv.Itoa(step)] = mixed
	}
	for seed := range int64(5) {
		l["mixed "+strconv.FormatInt(seed, 10)] = rand.New(rand.NewSource(seed)).Perm(64)
	}
	return l
}

// TestPutAllKeys: each found again, listed by the key, and laid as the same tree in memory is.
func TestPutAllKeys(t *testing.T) {
	for name, keys := range orders() {
		b := fresh(t, 60, 3)
		root := api.None
		want := map[int]int{}
		for i, key := range keys {
			page := b.blocks[i%3]
			next := b.wantPut(t, root, key, page)
			b.wantSwap(t, root, next, api.OK)
			root, want[key] = next, page
			var list []api.Entry
			for key := range 64 {
				page, ok := want[key]
				if !ok {
					page = api.None
				} else {
					list = append(list, api.Entry{Key: key, Page: page})
				}
				b.wantFind(t, root, key, page)
			}
			b.wantList(t, root, list...)
			text, height := pictured(keys[:i+1]...)
			b.wantDrawn(t, root, text)
			b.wantHeight(t, root, height)
			b.wantCounts(t, root)
			b.wantFree(t, 60-3-len(b.inside(t, root)))
			if height > api.MaxHeight || t.Failed() {
				t.Fatal(name, "behind", i, height)
			}
		}
		b.wantSwap(t, root, api.None, api.OK)
		b.wantFree(t, 57)
		b.wantCounts(t)
	}
}

// TestPutSplits: where nodes become two, and where a root comes above.
func TestPutSplits(t *testing.T) {
	for _, x := range []struct {
		want string
		keys []int
	}{
		{"(0)", []int{0}},
		{"(63)", []int{63}},
		{"(0 63)", []int{63, 0}},
		{"(1 2 3 4 5 6)", []int{6, 5, 4, 3, 2, 1}},
		{"((0 1 2) (3 4 5 6))", upTo(7)},
		{"((0 1 2) (3 4 5 6 7))", upTo(8)},
		{"((0 1 2) (3 4 5) (6 7 8 9))", upTo(10)},
		{"((10 20 25) (30 40 50 60))", []int{10, 20, 30, 40, 50, 60, 25}},
		{"((1 2 3) (4 5 6 7))", []int{7, 6, 5, 4, 3, 2, 1}},
		{"((0 1 2 3) (4 5 6 7))", []int{7, 6, 5, 4, 3, 2, 1, 0}},
		{"((0 1 2) (3 4 5) (6 7 8) (9 10 11) (12 13 14) (15 16 17 18 19 20))", upTo(21)},
		{"(((0 1 2) (3 4 5) (6 7 8)) ((9 10 11) (12 13 14) (15 16 17) (18 19 20 21)))", upTo(22)},
	} {
		b := fresh(t, 40, 1)
		root := b.built(t, x.keys...)
		b.wantDrawn(t, root, x.want)
		b.wantHeight(t, root, len(x.want)-len(strings.TrimLeft(x.want, "(")))
	}
}

// TestPutBelowTheFirst: a key below all others goes into the first leaf, and the entries above tell it.
func TestPutBelowTheFirst(t *testing.T) {
	b := fresh(t, 60, 1)
	keys := upTo(64)[30:60]
	root := b.built(t, keys...)
	b.wantHeight(t, root, 3)
	for _, key := range []int{29, 12, 0} {
		b.wantFind(t, root, key, api.None)
		next := b.wantPut(t, root, key, b.blocks[0])
		keys = append([]int{key}, keys...)
		b.wantList(t, next, ofKeys(b.blocks[0], keys...)...)
		b.wantFind(t, next, key, b.blocks[0])
		if n, _ := b.Get(next); n.Entries[0].Key != key {
			t.Error("the root tells", n.Entries[0].Key, "for the key", key)
		}
		b.drawn(t, next)
		b.wantSwap(t, root, next, api.OK)
		root = next
		b.wantCounts(t, root)
	}
}

// TestPutAgain: a key that is in it already has the new page, all else is as it was.
func TestPutAgain(t *testing.T) {
	for _, count := range []int{1, 6, 7, 30, 64} {
		b := fresh(t, 80, 2)
		root := b.built(t, upTo(count)...)
		text := b.drawn(t, root)
		for key := range count {
			next := b.wantPut(t, root, key, b.blocks[1])
			want := ofKeys(b.blocks[0], upTo(count)...)
			want[key].Page = b.blocks[1]
			b.wantList(t, next, want...)
			b.wantDrawn(t, next, text)
			b.wantList(t, root, ofKeys(b.blocks[0], upTo(count)...)...)
			if e := b.Drop(next); e != api.OK {
				t.Fatal(e)
			}
		}
		// The page that it has already: another root all the same.
		if next := b.wantPut(t, root, 0, b.blocks[0]); next == root {
			t.Error("the elder root")
		} else if e := b.Drop(next); e != api.OK {
			t.Error(e)
		}
		b.wantCounts(t, root)
	}
}

// TestPutMakesTheWayAnew: the nodes on the way to the key's leaf, and no others; the elder tree stays.
func TestPutMakesTheWayAnew(t *testing.T) {
	for _, count := range []int{0, 1, 5, 6, 7, 14, 21, 22, 32} {
		b := fresh(t, 200, 2)
		odd := make([]int, count)
		for i := range odd {
			odd[i] = 2*i + 1
		}
		root := b.built(t, odd...)
		for key := range 64 {
			b.wantWayAnew(t, root, key)
		}
	}
}

func (b *bed) wantWayAnew(t *testing.T, root, key int) {
	t.Helper()
	list, _ := b.List(root)
	text, counts, free := b.drawn(t, root), b.Pool().Counts(), b.Pool().Free()
	var elder []int
	if root != api.None {
		elder = b.inside(t, root)
	}
	next := b.wantPut(t, root, key, b.blocks[1])
	if all := without(elder, b.way(t, root, key)); len(without(all, b.inside(t, next))) > 0 {
		t.Fatal("nodes beside the way were left out")
	}
	kept := without(b.inside(t, next), without(b.inside(t, next), elder))
	if len(without(kept, without(elder, b.way(t, root, key)))) > 0 {
		t.Fatal("nodes on the way are in both")
	}
	anew := without(b.inside(t, next), elder)
	for _, page := range anew {
		if page != next && b.Pool().Count(page) != 1 || !b.Pool().Fresh(page) || counts[page] != 0 {
			t.Fatal("page", page, "is held", b.Pool().Count(page), "times")
		}
	}
	if b.Pool().Free() != free-len(anew) {
		t.Fatal("more was made than is in it:", free, b.Pool().Free(), anew)
	}
	// All is as it was, once the new tree is given up.
	b.wantDrawn(t, root, text)
	b.wantList(t, root, list...)
	if e := b.Hold(next); e != api.OK {
		t.Fatal(e)
	}
	b.wantCounts(t, root, next)
	if e := b.Drop(next); e != api.OK || b.Pool().Counts() != counts || b.Pool().Free() != free {
		t.Fatal(e)
	}
	b.wantList(t, root, list...)
}

// TestPutOfThree: just one node a level, though there are many.
func TestPutOfThree(t *testing.T) {
	b := fresh(t, 100, 2)
	root := b.built(t, upTo(30)...)
	b.wantHeight(t, root, 3)
	for key := range 30 {
		next := b.wantPut(t, root, key, b.blocks[1])
		if anew := without(b.inside(t, next), b.inside(t, root)); len(anew) != 3 {
			t.Error("made anew for", key, "were", anew)
		}
		if e := b.Drop(next); e != api.OK {
			t.Fatal(e)
		}
	}
}

// TestPutManyVersions: each elder tree is what it was, and what they share is given up with the last one.
func TestPutManyVersions(t *testing.T) {
	b := fresh(t, 240, 1)
	roots, r := []int{api.None}, rand.New(rand.NewSource(3))
	lists := [][]api.Entry{nil}
	for range 40 {
		i, key := r.Intn(len(roots)), r.Intn(64)
		next := b.wantPut(t, roots[i], key, b.blocks[0])
		b.wantSwap(t, api.None, next, api.OK)
		list := slices.DeleteFunc(slices.Clone(lists[i]), func(x api.Entry) bool { return x.Key == key })
		list = append(list, api.Entry{Key: key, Page: b.blocks[0]})
		slices.SortFunc(list, func(a, b api.Entry) int { return a.Key - b.Key })
		roots, lists = append(roots, next), append(lists, list)
		for i, root := range roots {
			b.wantList(t, root, lists[i]...)
		}
		b.wantCounts(t, roots...)
	}
	for len(roots) > 0 {
		i := r.Intn(len(roots))
		b.wantSwap(t, roots[i], api.None, api.OK)
		roots = slices.Delete(roots, i, i+1)
		b.wantCounts(t, roots...)
	}
	b.wantFree(t, 239)
}

func TestPutOfWrongKeys(t *testing.T) {
	b := fresh(t, 40, 1)
	root := b.built(t, upTo(30)...)
	b.wantStays(t, func() {
		for _, key := range wrongKeys {
			// Ahead of the store's errors: no root, and no page, is asked.
			for _, page := range []int{b.blocks[0], root, api.None, 39, 240} {
				b.wantNoPut(t, root, key, page, api.ErrBlock)
				b.wantNoPut(t, api.None, key, page, api.ErrBlock)
				b.wantNoPut(t, 39, key, page, api.ErrBlock)
				b.wantNoPut(t, b.blocks[0], key, page, api.ErrBlock)
			}
			b.wantFind(t, root, key, api.None)
		}
		b.d.Cut(0)
		b.wantNoPut(t, root, 64, b.blocks[0], api.ErrBlock)
		if b.d.Down() {
			t.Error("something was written")
		}
	})
}

// TestPutOfWrongPages: there is none such, or nobody has it.
func TestPutOfWrongPages(t *testing.T) {
	b := fresh(t, 60, 2)
	root := b.built(t, upTo(30)...)
	gone := b.made(t, data(9))
	if e := b.Drop(gone); e != api.OK {
		t.Fatal(e)
	}
	for page, want := range map[int]api.Errno{
		api.None: api.ErrNode, -2: api.ErrNode, 240: api.ErrNode, 256: api.ErrNode, math.MinInt: api.ErrNode, math.MaxInt: api.ErrNode,
		60: api.ErrFree, 239: api.ErrFree, gone: api.ErrFree, 59: api.ErrFree,
	} {
		for _, old := range []int{api.None, root} {
			b.wantUndone(t, func() { b.wantNoPut(t, old, 7, page, want) })
		}
		// The root's error comes first.
		b.wantNoPut(t, 58, 7, page, api.ErrFree)
		b.wantNoPut(t, b.blocks[1], 7, page, api.ErrNode)
	}
	b.wantList(t, root, ofKeys(b.blocks[0], upTo(30)...)...)
	b.wantCounts(t, root)
}

// TestNoTree: a root that there isn't, that nobody has, or that is a block.
func TestNoTree(t *testing.T) {
	b := fresh(t, 20, 2)
	gone := b.built(t, 1, 2)
	b.wantSwap(t, gone, api.None, api.OK)
	for _, root := range []int{-2, -3, -4, -5, gone, 5, 19, 20, 24, 239, 240, 256, 1 << 32, math.MinInt, math.MinInt + 4, math.MaxInt, math.MaxInt - 3} {
		b.wantStays(t, func() {
			b.wantNone(t, root, api.ErrFree, append(upTo(64), wrongKeys...)...)
			for key := range 64 {
				b.wantNoPut(t, root, key, b.blocks[0], api.ErrFree)
			}
		})
	}
	b.wantStays(t, func() {
		b.wantNone(t, b.blocks[1], api.ErrNode, append(upTo(64), wrongKeys...)...)
		b.wantNoPut(t, b.blocks[1], 5, b.blocks[0], api.ErrNode)
	})
	// Below the root, too.
	one := b.made(t, leafOf(1, b.blocks[0]))
	root := b.rooted(t, innerOf(1, one, 5, b.blocks[1]))
	b.wantStays(t, func() {
		b.wantFind(t, root, 1, b.blocks[0])
		if page, e := b.Find(root, 5); page != api.None || e != api.ErrNode {
			t.Error(page, e)
		}
		if l, e := b.List(root); len(l) != 0 || e != api.ErrNode {
			t.Error(l, e)
		}
		b.wantNoPut(t, root, 6, b.blocks[0], api.ErrNode)
	})
}

// TestWhatCantBeRead: the disk's errors, and those of pages that hold no node.
func TestWhatCantBeRead(t *testing.T) {
	b := fresh(t, 60, 1)
	root := b.built(t, upTo(30)...)
	for _, page := range b.inside(t, root) {
		good, _ := b.d.Read(page + api.FirstPage)
		spoil := map[api.Errno]func(bad bool){
			api.ErrFault: func(bad bool) { b.d.Spoil(page+api.FirstPage, bad) },
			api.ErrNode: func(bad bool) {
				p := good
				if bad {
					p[0] ^= 1
				}
				b.d.Write(page+api.FirstPage, p)
			},
		}
		for want, bad := range spoil {
			bad(true)
			b.wantUndone(t, func() {
				b.wantListFails(t, root, want)
				for key := range 30 {
					hit := slices.Contains(b.wayOf(root, key, page, good), page)
					p, e := b.Find(root, key)
					if hit && (p != api.None || e != want) || !hit && (p != b.blocks[0] || e != api.OK) {
						t.Error("Find of", key, p, e)
					}
					p, e = b.Put(root, key, b.blocks[0])
					if hit && (p != api.None || e != want) || !hit && e != api.OK {
						t.Error("Put of", key, p, e)
					}
					if !hit && b.Drop(p) != api.OK {
						t.Error("Drop of", p)
					}
				}
			})
			bad(false)
		}
	}
	b.wantList(t, root, ofKeys(b.blocks[0], upTo(30)...)...)
	b.wantCounts(t, root)
}

func (b *bed) wantListFails(t *testing.T, root int, want api.Errno) {
	t.Helper()
	if l, e := b.List(root); len(l) != 0 || e != want {
		t.Errorf("List of %d: %v, %d, not %d", root, l, e, want)
	}
}

// wayOf: the way to a key, by what page held before it was spoiled.
func (b *bed) wayOf(root, key, page int, good api.Page) []int {
	var l []int
	for at := root; ; {
		l = append(l, at)
		n, _ := b.Get(at)
		if at == page {
			n, _ = leaf.Open(good)
		}
		if n.Kind != api.KindInner {
			return l
		}
		at = n.Entries[max(leaf.At(n.Entries, key), 0)].Page
	}
}

// TestHeightFails: of the first way down.
func TestHeightFails(t *testing.T) {
	b := fresh(t, 60, 1)
	root := b.built(t, upTo(30)...)
	for _, page := range b.way(t, root, 0) {
		b.d.Spoil(page+api.FirstPage, true)
		b.wantNone(t, root, api.ErrFault, 0)
		b.d.Spoil(page+api.FirstPage, false)
	}
	b.wantHeight(t, root, 3)
}

func TestPutWithoutPower(t *testing.T) {
	b := fresh(t, 60, 1)
	root := b.built(t, upTo(30)...)
	// Three nodes are made, if there is power.
	for acts := range 3 {
		b.wantUndone(t, func() {
			b.d.Cut(acts)
			b.wantNoPut(t, root, 4, b.blocks[0], api.ErrPower)
			if !b.d.Down() {
				t.Error("it isn't down")
			}
			// It can be read all the same.
			b.wantList(t, root, ofKeys(b.blocks[0], upTo(30)...)...)
			b.wantFind(t, root, 29, b.blocks[0])
			b.wantHeight(t, root, 3)
			b.wantNoPut(t, root, 4, b.blocks[0], api.ErrPower)
		})
		keep := slices.Repeat([]byte{255}, len(b.d.Pending()))
		b.d.Crash(keep...)
		b.wantCounts(t, root)
	}
	b.d.Cut(3)
	b.wantPut(t, root, 4, b.blocks[0])
}

// TestPutWithTooFewPages: what was made is made, Undo makes it undone, and the elder tree stays.
func TestPutWithTooFewPages(t *testing.T) {
	for _, count := range []int{0, 1, 5, 6, 7, 20, 21, 22, 30} {
		b := fresh(t, 120, 1)
		var keys []int
		for key := range count {
			keys = append(keys, key*2)
		}
		root := b.built(t, keys...)
		list, _ := b.List(root)
		key := max(2*count-1, 0)
		needed := b.Pool().Free()
		next := b.wantPut(t, root, key, b.blocks[0])
		needed -= b.Pool().Free()
		if e := b.Drop(next); e != api.OK {
			t.Fatal(e)
		}
		for free := needed; free >= 0; free-- {
			b.leave(t, free)
			if free == needed {
				b.wantUndone(t, func() { b.wantPut(t, root, key, b.blocks[0]); b.wantFree(t, 0) })
				continue
			}
			b.wantUndone(t, func() {
				b.wantNoPut(t, root, key, b.blocks[0], api.ErrSpace)
				b.wantFree(t, 0)
				b.wantList(t, root, list...)
			})
			b.wantFree(t, free)
			b.wantList(t, root, list...)
		}
	}
}

// TestHeldTooOften: of a page that is held 255 times no node more can be made.
func TestHeldTooOften(t *testing.T) {
	b := fresh(t, 60, 3)
	often, other := b.blocks[0], b.blocks[1]
	root := b.rooted(t, leafOf(1, often, 2, other))
	next := b.rooted(t, leafOf(1, other))
	b.holdOften(t, often, 254)
	b.wantUndone(t, func() { b.wantPut(t, root, 5, other) })
	b.wantUndone(t, func() { b.wantNoPut(t, root, 5, often, api.ErrCount) })
	b.holdOften(t, often, 255)
	b.wantUndone(t, func() {
		b.wantNoPut(t, root, 5, other, api.ErrCount) // the leaf's own entry
		b.wantNoPut(t, api.None, 5, often, api.ErrCount)
		b.wantNoPut(t, next, 5, often, api.ErrCount)
	})
	b.wantUndone(t, func() {
		b.wantPut(t, root, 1, other) // the one that is held too often is left out
		b.wantPut(t, next, 5, other)
	})
	b.wantUndone(t, func() {
		if l, e := b.Split(leafOf(1, other, 2, often)); len(l) != 0 || e != api.ErrCount {
			t.Error(l, e)
		}
		if page, e := b.Build(entries(1, other, 2, often)...); page != api.None || e != api.ErrCount {
			t.Error(page, e)
		}
	})
	b.wantList(t, root, entries(1, often, 2, other)...)

	// A node that is: what goes by it fails, what goes through it doesn't.
	b.holdOften(t, next, 254)
	top := b.rooted(t, innerOf(0, b.made(t, leafOf(0, other)), 1, next))
	b.wantUndone(t, func() { b.wantNoPut(t, top, 0, other, api.ErrCount) })
	b.wantUndone(t, func() { b.wantPut(t, top, 7, other) })
}

func TestSwap(t *testing.T) {
	b := fresh(t, 40, 1)
	a := b.wantPut(t, api.None, 1, b.blocks[0])
	b.wantSwap(t, api.None, a, api.OK) // a root for None
	b.wantCounts(t, a)
	c := b.wantPut(t, a, 2, b.blocks[0])
	b.wantSwap(t, a, c, api.OK) // a root for another one
	b.wantCounts(t, c)
	if _, e := b.Get(a); e != api.ErrFree {
		t.Error("the old one is there still:", e)
	}
	b.wantStays(t, func() { b.wantSwap(t, c, c, api.OK) })
	b.wantSwap(t, api.None, c, api.OK) // held twice
	b.wantCounts(t, c, c)
	b.wantSwap(t, c, api.None, api.OK)
	b.wantCounts(t, c)
	b.wantStays(t, func() { b.wantSwap(t, api.None, api.None, api.OK) })
	b.wantSwap(t, c, api.None, api.OK) // None for a root
	b.wantCounts(t)
	b.wantFree(t, 39)
}

// TestSwapHoldsFirst: what is under the old root alone, or is the old root, isn't given up in between.
func TestSwapHoldsFirst(t *testing.T) {
	b := fresh(t, 40, 1)
	one := b.made(t, leafOf(1, b.blocks[0]))
	root := b.rooted(t, innerOf(1, one))
	b.wantSwap(t, root, one, api.OK)
	b.wantCounts(t, one)
	b.wantList(t, one, entries(1, b.blocks[0])...)
	b.wantSwap(t, one, one, api.OK)
	b.wantList(t, one, entries(1, b.blocks[0])...)
}

func TestSwapFails(t *testing.T) {
	b := fresh(t, 40, 1)
	root, often := b.built(t, upTo(9)...), b.built(t, 1)
	b.holdOften(t, often, 255)
	wrong := []int{-2, 39, 40, 240, math.MinInt, math.MaxInt}
	b.wantStays(t, func() {
		for _, page := range wrong {
			b.wantSwap(t, root, page, api.ErrFree)
			b.wantSwap(t, api.None, page, api.ErrFree)
			b.wantSwap(t, page, api.None, api.ErrFree)
			b.wantSwap(t, page, often, api.ErrCount) // next's error is the first
			b.wantSwap(t, page, page, api.ErrFree)
		}
		b.wantSwap(t, root, often, api.ErrCount)
		b.wantSwap(t, often, often, api.ErrCount)
		b.wantSwap(t, api.None, often, api.ErrCount)
	})
	for _, page := range wrong {
		b.wantUndone(t, func() { b.wantSwap(t, page, root, api.ErrFree) })
	}
	next := b.wantPut(t, root, 20, b.blocks[0])
	b.d.Spoil(root+api.FirstPage, true)
	b.wantUndone(t, func() { b.wantSwap(t, root, next, api.ErrFault) })
	b.d.Spoil(root+api.FirstPage, false)
	b.wantSwap(t, root, next, api.OK)
	b.wantSwap(t, often, api.None, api.OK)
	if b.Pool().Count(often) != 254 {
		t.Error(b.Pool().Count(often))
	}
}

func TestBuild(t *testing.T) {
	for _, keys := range [][]int{{}, {0}, {63}, {5, 3}, {5, 3, 5, 5}, upTo(6), upTo(7), upTo(22), upTo(64), {9, 8, 7, 6, 5, 4, 3, 2, 1, 0}} {
		b := fresh(t, 60, 1)
		root := b.built(t, keys...)
		want := slices.Compact(slices.Sorted(slices.Values(keys)))
		b.wantList(t, root, ofKeys(b.blocks[0], want...)...)
		text, height := pictured(keys...)
		b.wantDrawn(t, root, text)
		b.wantHeight(t, root, height)
		b.wantCounts(t, root)
		if len(keys) == 0 {
			b.wantFree(t, 59)
			if root != api.None {
				t.Error("a root of nothing:", root)
			}
			continue
		}
		b.wantFree(t, 59-len(b.inside(t, root)))
		b.wantSwap(t, root, api.None, api.OK)
		b.wantFree(t, 59)
	}
}

// TestBuildIsPuts: as if each was Put, and Swapped, by hand; of twins the last one counts.
func TestBuildIsPuts(t *testing.T) {
	r := rand.New(rand.NewSource(7))
	for range 40 {
		one, two := fresh(t, 60, 4), fresh(t, 60, 4)
		var l []api.Entry
		want := map[int]int{}
		for range r.Intn(80) {
			x := api.Entry{Key: r.Intn(64), Page: one.blocks[r.Intn(4)]}
			l, want[x.Key] = append(l, x), x.Page
		}
		root := api.None
		for _, x := range l {
			next := one.wantPut(t, root, x.Key, x.Page)
			one.wantSwap(t, root, next, api.OK)
			root = next
		}
		if page, e := two.Build(l...); page != root || e != api.OK || seen(two.Pool()) != seen(one.Pool()) {
			t.Fatal("another tree:", page, root, e)
		}
		for key, page := range want {
			two.wantFind(t, root, key, page)
		}
		two.wantCounts(t, root)
	}
}

func TestBuildFails(t *testing.T) {
	b := fresh(t, 40, 1)
	p := b.blocks[0]
	for _, x := range []struct {
		want api.Errno
		l    []api.Entry
	}{
		{api.ErrBlock, entries(1, p, 2, p, 64, p)},
		{api.ErrBlock, entries(1, p, -1, p, 2, p)},
		{api.ErrBlock, entries(1, p, 2, p, 3, p, 4, p, 5, p, 6, p, 7, p, 8, p, math.MaxInt, p)},
		{api.ErrBlock, entries(math.MinInt, 39)},
		{api.ErrFree, entries(1, 39, 64, p)},
		{api.ErrFree, entries(1, p, 2, 39, 3, 240)},
		{api.ErrBlock, entries(64, p, 1, 39)},
		{api.ErrNode, entries(1, p, 2, api.None, 64, p)},
		{api.ErrNode, entries(1, 240, 2, 39)},
	} {
		b.wantUndone(t, func() {
			if root, e := b.Build(x.l...); root != api.None || e != x.want {
				t.Errorf("Build of %v: %d, %d, not None, %d", x.l, root, e, x.want)
			}
		})
		b.wantCounts(t)
	}
	b.wantStays(t, func() {
		for _, key := range wrongKeys {
			if root, e := b.Build(entries(key, p)...); root != api.None || e != api.ErrBlock {
				t.Error(key, root, e)
			}
		}
	})
	// As many pages as the last Put needs beside the tree ahead of it, or one fewer.
	for free, want := range map[int]api.Errno{0: api.ErrSpace, 1: api.ErrSpace, 3: api.ErrSpace, 4: api.OK} {
		b := fresh(t, 40, 1)
		b.leave(t, free)
		b.wantUndone(t, func() {
			if root, e := b.Build(ofKeys(p, upTo(7)...)...); e != want || e != api.OK && root != api.None {
				t.Error(free, root, e)
			}
		})
		b.wantFree(t, free)
	}
}

// TestSplit: how many nodes of how many entries, and what is told of each.
func TestSplit(t *testing.T) {
	for _, kind := range []int{api.KindLeaf, api.KindInner} {
		for count, want := range map[int][]int{
			1: {1}, 2: {2}, 3: {3}, 4: {4}, 5: {5}, 6: {6}, 7: {3, 4}, 8: {4, 4}, 9: {4, 5}, 10: {5, 5}, 11: {5, 6}, 12: {6, 6},
		} {
			b := fresh(t, 40, 12)
			var l []api.Entry
			for i := range count {
				l = append(l, api.Entry{Key: 63 - 5*(count-1-i), Page: b.blocks[11-i]})
			}
			tops, e := b.Split(api.Node{Kind: kind, Entries: l})
			if len(tops) != len(want) || e != api.OK {
				t.Fatal(count, tops, e)
			}
			b.wantFree(t, 40-12-len(want))
			for i, x := range tops {
				part := l[:want[i]]
				l = l[want[i]:]
				if n, e := b.Get(x.Page); !leaf.Same(n, api.Node{Kind: kind, Entries: part}) || x.Key != part[0].Key || e != api.OK {
					t.Error(count, x, n, part, e)
				}
				if b.Pool().Count(x.Page) != 0 || !b.Pool().Fresh(x.Page) {
					t.Error("a node is held already:", x)
				}
			}
			for i, block := range b.blocks {
				held := 1
				if 11-i < count {
					held = 2
				}
				if b.Pool().Count(block) != held {
					t.Error(count, "block", block, "is held", b.Pool().Count(block), "times")
				}
			}
		}
	}
}

// TestSplitOfNone: nothing is made, whatever the kind.
func TestSplitOfNone(t *testing.T) {
	b := fresh(t, 8, 1)
	b.wantStays(t, func() {
		for _, kind := range []int{api.KindData, api.KindLeaf, api.KindInner, 0, 4, -1, math.MinInt, math.MaxInt} {
			for _, l := range [][]api.Entry{nil, {}} {
				if tops, e := b.Split(api.Node{Kind: kind, Entries: l}); len(tops) != 0 || e != api.OK {
					t.Error(kind, tops, e)
				}
			}
		}
	})
}

func TestSplitFails(t *testing.T) {
	b := fresh(t, 40, 1)
	p := b.blocks[0]
	wantSplit := func(n api.Node, want api.Errno) {
		t.Helper()
		if l, e := b.Split(n); len(l) != 0 || e != want {
			t.Errorf("Split of %v: %v, %d, not %d", n, l, e, want)
		}
	}
	b.wantStays(t, func() {
		for _, count := range []int{13, 14, 18, 64, 1000} {
			for _, kind := range []int{api.KindData, api.KindLeaf, api.KindInner, 0, 4} {
				wantSplit(api.Node{Kind: kind, Entries: ofKeys(p, upTo(count)...)}, api.ErrNode)
				wantSplit(api.Node{Kind: kind, Entries: make([]api.Entry, count)}, api.ErrNode)
			}
		}
		for _, kind := range []int{api.KindData, 0, 4, -1, 258, math.MinInt, math.MaxInt} {
			wantSplit(api.Node{Kind: kind, Entries: entries(1, p)}, api.ErrNode)
			wantSplit(api.Node{Kind: kind, Entries: ofKeys(p, upTo(12)...)}, api.ErrNode)
		}
		for _, kind := range []int{api.KindLeaf, api.KindInner} {
			for _, l := range [][]api.Entry{
				entries(1, p, 1, p), entries(2, p, 1, p), entries(-1, p), entries(64, p), entries(1, -1), entries(1, 240), entries(math.MinInt, p), entries(1, math.MaxInt),
				ofKeys(p, 1, 2, 2, 4, 5, 6, 7), ofKeys(p, -1, 2, 3, 4, 5, 6, 7),
			} {
				wantSplit(api.Node{Kind: kind, Entries: l}, api.ErrNode)
			}
			wantSplit(api.Node{Kind: kind, Entries: entries(1, p, 2, 39)}, api.ErrFree)
			wantSplit(api.Node{Kind: kind, Entries: entries(1, 39, 2, p, 3, p, 4, p, 5, p, 6, p, 64, p)}, api.ErrFree)
		}
	})
	// The second one's error, behind the first one, that was made.
	for _, kind := range []int{api.KindLeaf, api.KindInner} {
		b.wantUndone(t, func() { wantSplit(api.Node{Kind: kind, Entries: ofKeys(p, 1, 2, 3, 4, 5, 5, 7)}, api.ErrNode) })
		b.wantUndone(t, func() { wantSplit(api.Node{Kind: kind, Entries: ofKeys(p, 1, 2, 3, 4, 5, 6, 64)}, api.ErrNode) })
		b.wantUndone(t, func() {
			wantSplit(api.Node{Kind: kind, Entries: entries(1, p, 2, p, 3, p, 4, p, 5, p, 6, p, 7, 39)}, api.ErrFree)
		})
	}
	b.leave(t, 1)
	b.wantUndone(t, func() { wantSplit(api.Node{Kind: api.KindLeaf, Entries: ofKeys(p, upTo(7)...)}, api.ErrSpace) })
	b.leave(t, 0)
	b.wantUndone(t, func() { wantSplit(api.Node{Kind: api.KindLeaf, Entries: ofKeys(p, 1)}, api.ErrSpace) })
	wantSplit(api.Node{Kind: api.KindLeaf, Entries: ofKeys(p, upTo(13)...)}, api.ErrNode)
}

// tower: a tree of one key at a time and of that height, held once.
func (b *bed) tower(t *testing.T, height int) int {
	t.Helper()
	page := b.made(t, leafOf(7, b.blocks[0]))
	for range height - 1 {
		page = b.made(t, innerOf(7, page))
	}
	if e := b.Hold(page); e != api.OK {
		t.Fatal(e)
	}
	return page
}

// TestMaxHeight: eight nodes above one another are a tree; one more is gone down no more.
func TestMaxHeight(t *testing.T) {
	for height := 1; height <= api.MaxHeight; height++ {
		b := fresh(t, 40, 2)
		root := b.tower(t, height)
		b.wantHeight(t, root, height)
		b.wantFind(t, root, 7, b.blocks[0])
		b.wantFind(t, root, 8, api.None)
		b.wantList(t, root, entries(7, b.blocks[0])...)
		next := b.wantPut(t, root, 3, b.blocks[1])
		b.wantHeight(t, next, height)
		b.wantList(t, next, entries(3, b.blocks[1], 7, b.blocks[0])...)
		b.wantSwap(t, root, next, api.OK)
		b.wantCounts(t, next)
	}
	for _, height := range []int{9, 10, 20} {
		b := fresh(t, 40, 1)
		root := b.tower(t, height)
		b.wantStays(t, func() {
			b.wantNone(t, root, api.ErrNode, 7, 8, 63)
			b.wantNoPut(t, root, 7, b.blocks[0], api.ErrNode)
			b.wantNoPut(t, root, 3, b.blocks[0], api.ErrNode)
		})
	}
}

// TestUnderItself: a node that is among its own children, or is so by way of others: the calls end.
func TestUnderItself(t *testing.T) {
	b := fresh(t, 40, 1)
	one := b.made(t, leafOf(0, b.blocks[0]))
	x := b.rooted(t, innerOf(0, one))
	y := b.rooted(t, innerOf(0, x))
	for _, n := range []api.Node{
		innerOf(0, x), innerOf(0, one, 1, x), innerOf(0, x, 1, one), innerOf(0, y), innerOf(0, one, 9, y),
		innerOf(0, x, 1, x, 2, x, 3, x, 4, x, 5, x), innerOf(0, one, 1, x, 2, x, 3, x, 4, x, 5, x), innerOf(0, one, 1, y, 2, x, 3, y, 4, x, 5, y),
		leafOf(0, x), leafOf(0, y, 1, x),
	} {
		b.lay(t, x, n)
		for _, root := range []int{x, y} {
			for key := -1; key <= 64; key++ {
				b.wantUndone(t, func() {
					if page, e := b.Find(root, key); e != api.OK && page != api.None {
						t.Error(page, e)
					}
					if page, e := b.Put(root, key, b.blocks[0]); (e == api.OK) == (page == api.None) {
						t.Error(page, e)
					}
				})
			}
			b.wantUndone(t, func() {
				b.List(root)
				b.Height(root)
				b.Swap(root, x)
				b.Swap(root, api.None)
			})
		}
	}
	b.lay(t, x, innerOf(0, x))
	b.wantNone(t, x, api.ErrNode, 0, 1, 63, 64)
	b.wantNoPut(t, x, 5, b.blocks[0], api.ErrNode)
}

// TestTwins: nodes that have the same child six times, at each depth, don't list a million of entries.
func TestTwins(t *testing.T) {
	b := fresh(t, 40, 1)
	p := b.blocks[0]
	root := b.rooted(t, leafOf(0, p, 1, p, 2, p, 3, p, 4, p, 5, p))
	for height := 2; height <= 20; height++ {
		root = b.rooted(t, innerOf(0, root, 1, root, 2, root, 3, root, 4, root, 5, root))
		if l, e := b.List(root); len(l) > api.MaxBlocks || len(l) > 0 && e != api.OK {
			t.Error(len(l), e)
		}
		b.Find(root, 5)
		b.Height(root)
		b.Put(root, 5, p)
	}
}

// TestWhateverStandsThere: nodes of any children on a disk, and any calls: all end, and beside an error is nothing.
func TestWhateverStandsThere(t *testing.T) {
	r := rand.New(rand.NewSource(11))
	for range 300 {
		size := 1 + r.Intn(20)
		b := fresh(t, size, 0)
		for range size {
			page, _ := b.Pool().Take()
			for range r.Intn(3) {
				b.Hold(page)
			}
			n := api.Node{Kind: api.KindLeaf + r.Intn(2)}
			for key := r.Intn(8); key < 64 && len(n.Entries) < 6; key += 1 + r.Intn(20) {
				n.Entries = append(n.Entries, api.Entry{Key: key, Page: r.Intn(size)})
			}
			b.lay(t, page, n)
			if r.Intn(6) == 0 {
				b.Drop(page)
			}
		}
		for range 40 {
			root, key, page := r.Intn(size+3)-2, r.Intn(70)-3, r.Intn(size+3)-2
			switch r.Intn(6) {
			case 0:
				page, e := b.Find(root, key)
				if e != api.OK && page != api.None {
					t.Fatal(page, e)
				}
			case 1:
				l, e := b.List(root)
				if e != api.OK && len(l) > 0 {
					t.Fatal(l, e)
				}
			case 2:
				h, e := b.Height(root)
				if e != api.OK && h != 0 || h > api.MaxHeight {
					t.Fatal(h, e)
				}
			case 3:
				next, e := b.Put(root, key, page)
				if (e == api.OK) == (next == api.None) {
					t.Fatal(next, e)
				}
			case 4:
				b.Swap(root, page)
			case 5:
				next, e := b.Build(entries(key, page, r.Intn(64), root)...)
				if (e == api.OK) == (next == api.None) {
					t.Fatal(next, e)
				}
			}
		}
	}
}

// TestUndo: whatever a store with too few pages made, Undo brings back all trees.
func TestUndo(t *testing.T) {
	r := rand.New(rand.NewSource(13))
	failed := 0
	for range 60 {
		size := 10 + r.Intn(40)
		b := fresh(t, size, 2)
		root := api.None
		want := map[int]int{}
		for range 100 {
			key, page := r.Intn(64), b.blocks[r.Intn(2)]
			b.Pool().Tidy()
			mark := b.Mark()
			next, e := b.Put(root, key, page)
			if e == api.OK {
				e = b.Swap(root, next)
			}
			if e == api.OK {
				root, want[key] = next, page
			} else {
				failed++
				b.Undo(mark)
			}
			if e != api.OK && e != api.ErrSpace {
				t.Fatal(e)
			}
			b.wantCounts(t, root)
			for key := range 64 {
				page, ok := want[key]
				if !ok {
					page = api.None
				}
				b.wantFind(t, root, key, page)
			}
			if r.Intn(10) == 0 {
				b.Pool().Commit()
			}
		}
	}
	if failed == 0 {
		t.Error("nothing failed")
	}
}

// TestArgumentsStay: what is handed in isn't changed, spare room included, and not kept.
func TestArgumentsStay(t *testing.T) {
	b := fresh(t, 60, 1)
	for _, count := range []int{0, 1, 6, 7, 12, 13} {
		room := make([]api.Entry, 20)
		for i := range room {
			room[i] = api.Entry{Key: i, Page: b.blocks[0]}
		}
		was := slices.Clone(room)
		root, e := b.Build(room[:count]...)
		tops, f := b.Split(api.Node{Kind: api.KindLeaf, Entries: room[:count]})
		if !slices.Equal(room, was) {
			t.Error(count, "what was handed in was changed:", room)
		}
		clear(room)
		if e != api.OK {
			t.Fatal(e)
		}
		b.wantList(t, root, was[:count]...)
		for i, x := range tops {
			if f != api.OK || was[i*(count/2)].Key != x.Key {
				t.Error(count, tops, f)
			}
		}
		b.Split(api.Node{Kind: api.KindLeaf, Entries: was[count : count+3]})
		b.wantUndone(t, func() { b.Build(entries(1, b.blocks[0], 64, 3)...) })
	}
}

// TestAnswersAreNew: what was answered may be written over, spare room too.
func TestAnswersAreNew(t *testing.T) {
	b := fresh(t, 60, 1)
	for _, count := range []int{1, 6, 7, 30} {
		root := b.built(t, upTo(count)...)
		want := ofKeys(b.blocks[0], upTo(count)...)
		one, _ := b.List(root)
		two, _ := b.List(root)
		clear(one[:cap(one)])
		if !slices.Equal(two, want) {
			t.Error("two answers share their memory:", two)
		}
		b.wantList(t, root, want...)
	}
	l := ofKeys(b.blocks[0], upTo(7)...)
	one, _ := b.Split(api.Node{Kind: api.KindLeaf, Entries: l})
	two, _ := b.Split(api.Node{Kind: api.KindLeaf, Entries: l})
	clear(one[:cap(one)])
	if !slices.Equal(l, ofKeys(b.blocks[0], upTo(7)...)) || two[0].Key != 0 || two[1].Key != 3 {
		t.Error("an answer shares its memory:", l, two)
	}
}

// TestSameAgain: what is answered hangs on what was done alone.
func TestSameAgain(t *testing.T) {
	run := func() ([]int, view) {
		r := rand.New(rand.NewSource(17))
		b := fresh(t, 60, 2)
		root := api.None
		var l []int
		for range 200 {
			next := b.wantPut(t, root, r.Intn(64), b.blocks[r.Intn(2)])
			b.wantSwap(t, root, next, api.OK)
			root = next
			l = append(l, root)
		}
		return l, seen(b.Pool())
	}
	l, v := run()
	for range 3 {
		if k, w := run(); !slices.Equal(k, l) || w != v {
			t.Fatal("another time it was otherwise")
		}
	}
}

// TestStoreIsItsOwn: the store's calls are the tree's, and one store may have many trees.
func TestStoreIsItsOwn(t *testing.T) {
	b := fresh(t, 40, 1)
	other := Tree{Store: b.Store}
	root, e := other.Build(entries(1, b.blocks[0])...)
	if e != api.OK || other.Pool() != b.Pool() {
		t.Fatal(root, e)
	}
	b.wantFind(t, root, 1, b.blocks[0])
	next := b.built(t, 1, 2)
	b.wantCounts(t, root, next)
}
