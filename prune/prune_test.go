package prune

import (
	"math"
	"math/rand"
	"slices"
	"strconv"
	"strings"
	"testing"

	"understudy/api"
	"understudy/disk"
	"understudy/leaf"
	"understudy/nodes"
	"understudy/pool"
	"understudy/tally"
	"understudy/tree"
)

// wrongKeys: keys that there aren't.
var wrongKeys = []int{-1, -2, -64, 64, 65, 127, 128, 255, 256, 320, 1 << 32, 1<<32 + 1, math.MinInt, math.MinInt + 1, math.MaxInt - 1, math.MaxInt}

// entries: of keys and pages, by turns.
func entries(l ...int) []api.Entry {
	var x []api.Entry
	for i := 0; i < len(l); i += 2 {
		x = append(x, api.Entry{Key: l[i], Page: l[i+1]})
	}
	return x
}

// upTo: so many numbers from 0 on.
func upTo(n int) []int {
	l := make([]int, n)
	for i := range l {
		l[i] = i
	}
	return l
}

func data(c byte) api.Node { return api.Node{Kind: api.KindData, Block: api.Block{c, 15: ^c}} }

func leafOf(l ...int) api.Node { return api.Node{Kind: api.KindLeaf, Entries: entries(l...)} }

func innerOf(l ...int) api.Node { return api.Node{Kind: api.KindInner, Entries: entries(l...)} }

// bed is trees, the disk they stand on, and blocks that are held once beside them.
type bed struct {
	Pruner
	d      *disk.Disk
	blocks []int
}

// fresh: a store of so many pages, of which the first ones are so many blocks.
func fresh(t *testing.T, size, blocks int) *bed {
	t.Helper()
	b := &bed{d: disk.New(size + api.FirstPage)}
	b.Tree = tree.Tree{Store: nodes.New(b.d, pool.New(size))}
	for i := range blocks {
		b.blocks = append(b.blocks, b.rooted(t, data(byte(i))))
	}
	return b
}

func (b *bed) made(t *testing.T, n api.Node) int {
	t.Helper()
	page, e := b.Make(n)
	if e != api.OK {
		t.Fatalf("Make of %v: %d, %d", n, page, e)
	}
	return page
}

// rooted: a node that is made, and held as a root.
func (b *bed) rooted(t *testing.T, n api.Node) int {
	t.Helper()
	page := b.made(t, n)
	b.hold(t, page)
	return page
}

func (b *bed) hold(t *testing.T, page int) {
	t.Helper()
	if e := b.Hold(page); e != api.OK {
		t.Fatalf("Hold of %d: %d", page, e)
	}
}

func (b *bed) drop(t *testing.T, page int) {
	t.Helper()
	if e := b.Drop(page); e != api.OK {
		t.Fatalf("Drop of %d: %d", page, e)
	}
}

// holdOften: a page is held so often.
func (b *bed) holdOften(t *testing.T, page, times int) {
	t.Helper()
	for b.Pool().Count(page) < times {
		b.hold(t, page)
	}
}

// leave: just so many pages stay free.
func (b *bed) leave(t *testing.T, free int) {
	t.Helper()
	for b.Pool().Free() > free {
		page, e := b.Pool().Take()
		if e != api.OK {
			t.Fatal(page, e)
		}
		b.hold(t, page)
	}
}

// lay: whatever one likes stands on a page, beside the store.
func (b *bed) lay(t *testing.T, page int, n api.Node) {
	t.Helper()
	p, e := leaf.Page(n)
	if e != api.OK || b.d.Write(page+api.FirstPage, p) != api.OK {
		t.Fatal(page, n, e)
	}
}

// of: keys with the block that belongs to each.
func (b *bed) of(keys ...int) []api.Entry {
	var l []api.Entry
	for _, key := range keys {
		l = append(l, api.Entry{Key: key, Page: b.blocks[key%len(b.blocks)]})
	}
	return l
}

// built: a tree of these keys, put in one behind the other, held once.
func (b *bed) built(t *testing.T, keys ...int) int {
	t.Helper()
	root, e := b.Build(b.of(keys...)...)
	if e != api.OK {
		t.Fatalf("Build of %v: %d, %d", keys, root, e)
	}
	return root
}

func (b *bed) wantList(t *testing.T, root int, want ...api.Entry) {
	t.Helper()
	if l, e := b.List(root); !slices.Equal(l, want) || e != api.OK {
		t.Errorf("List of %d: %v, %d, not %v", root, l, e, want)
	}
}

func (b *bed) wantFree(t *testing.T, want int) {
	t.Helper()
	if n := b.Pool().Free(); n != want {
		t.Errorf("%d pages are free, not %d", n, want)
	}
}

// wantCut: a tree whose root isn't held yet, if it is new.
func (b *bed) wantCut(t *testing.T, root, key int) int {
	t.Helper()
	next, was, e := b.Cut(root, key)
	if e != api.OK || !was || next == root {
		t.Fatalf("Cut of %d in %d: %d, %t, %d", key, root, next, was, e)
	}
	return next
}

func (b *bed) wantNoCut(t *testing.T, root, key int, want api.Errno) {
	t.Helper()
	was := *b.Pool()
	if next, did, e := b.Cut(root, key); next != api.None || did || e != want {
		t.Errorf("Cut of %d in %d: %d, %t, %d, not None, false, %d", key, root, next, did, e, want)
	}
	if *b.Pool() != was {
		t.Errorf("Cut of %d in %d failed and changed the pool", key, root)
	}
}

// wantNothing: nothing belongs to the key.
func (b *bed) wantNothing(t *testing.T, root, key int) {
	t.Helper()
	if next, did, e := b.Cut(root, key); next != root || did || e != api.OK {
		t.Errorf("Cut of %d in %d: %d, %t, %d, not the elder root, and false", key, root, next, did, e)
	}
}

func (b *bed) wantTrim(t *testing.T, root int, keys ...int) int {
	t.Helper()
	next, e := b.Trim(root, keys...)
	if e != api.OK {
		t.Fatalf("Trim of %v in %d: %d, %d", keys, root, next, e)
	}
	return next
}

func (b *bed) wantNoTrim(t *testing.T, want api.Errno, root int, keys ...int) {
	t.Helper()
	if next, e := b.Trim(root, keys...); next != api.None || e != want {
		t.Errorf("Trim of %v in %d: %d, %d, not None, %d", keys, root, next, e, want)
	}
}

// wantStays: what is done changes neither the pool nor the disk.
func (b *bed) wantStays(t *testing.T, do func()) {
	t.Helper()
	was, writes := *b.Pool(), b.d.Pending()
	do()
	if *b.Pool() != was {
		t.Error("the pool was changed")
	}
	if !slices.Equal(b.d.Pending(), writes) {
		t.Error("the disk was written:", b.d.Pending(), writes)
	}
}

// wantUndone: what is done, Undo makes undone.
func (b *bed) wantUndone(t *testing.T, do func()) {
	t.Helper()
	mark := b.Mark()
	do()
	b.Undo(mark)
	if *b.Pool() != *mark {
		t.Error("Undo left something")
	}
}

// wantCounts: each page is held as often as it is among the roots, the blocks, and the children of the nodes of the roots' trees.
func (b *bed) wantCounts(t *testing.T, roots ...int) {
	t.Helper()
	var want tally.Counts
	for _, page := range slices.Concat(b.blocks, roots) {
		if page != api.None {
			want[page]++
		}
	}
	all, e := b.Reach(roots...)
	if e != api.OK {
		t.Fatal(roots, e)
	}
	for _, page := range all {
		n, _ := b.Get(page)
		for _, x := range n.Entries {
			want[x.Page]++
		}
	}
	if got := b.Pool().Counts(); got != want {
		t.Fatalf("counts: %v, not %v", got, want)
	}
}

// grown is a tree in memory: what a store's must look like. What two trees share is the same in both.
type grown struct {
	inner bool
	keys  []int
	kids  []*grown
}

func (g *grown) size() int { return len(g.keys) + len(g.kids) }

func (g *grown) first() int {
	if g.inner {
		return g.kids[0].first()
	}
	return g.keys[0]
}

func (g *grown) text() string {
	if g == nil {
		return ""
	}
	var parts []string
	for _, key := range g.keys {
		parts = append(parts, strconv.Itoa(key))
	}
	for _, k := range g.kids {
		parts = append(parts, k.text())
	}
	return "(" + strings.Join(parts, " ") + ")"
}

// joined: one node of both.
func joined(a, b *grown) *grown {
	return &grown{inner: a.inner, keys: slices.Concat(a.keys, b.keys), kids: slices.Concat(a.kids, b.kids)}
}

// cut: the tree without a key.
func (g *grown) cut(key int) *grown {
	for g.inner && len(g.kids) == 1 {
		g = g.kids[0]
	}
	h := g.without(key)
	if h.size() == 0 {
		return nil
	}
	if h.inner && h.size() == 1 {
		return h.kids[0]
	}
	return h
}

func (g *grown) without(key int) *grown {
	if !g.inner {
		return &grown{keys: slices.DeleteFunc(slices.Clone(g.keys), func(k int) bool { return k == key })}
	}
	i := 0
	for i+1 < len(g.kids) && g.kids[i+1].first() <= key {
		i++
	}
	ahead, kid, behind := g.kids[:i], g.kids[i].without(key), g.kids[i+1:]
	switch {
	case kid.size() == 0:
		return &grown{inner: true, kids: slices.Concat(ahead, behind)}
	case len(ahead) > 0 && ahead[i-1].size()+kid.size() <= 6:
		kid, ahead = joined(ahead[i-1], kid), ahead[:i-1]
	case len(behind) > 0 && kid.size()+behind[0].size() <= 6:
		kid, behind = joined(kid, behind[0]), behind[1:]
	}
	return &grown{inner: true, kids: slices.Concat(ahead, []*grown{kid}, behind)}
}

// parsed: the tree that a text shows, and what is behind it.
func parsed(text string) (*grown, string) {
	g, rest := &grown{}, text[1:]
	for rest[0] != ')' {
		switch end := strings.IndexAny(rest, " )"); {
		case rest[0] == '(':
			var k *grown
			k, rest = parsed(rest)
			g.inner, g.kids = true, append(g.kids, k)
		default:
			key, _ := strconv.Atoi(rest[:end])
			g.keys, rest = append(g.keys, key), rest[end:]
		}
		rest = strings.TrimPrefix(rest, " ")
	}
	return g, rest[1:]
}

// laid: the tree that a text shows, made by hand and held once.
func (b *bed) laid(t *testing.T, text string) int {
	t.Helper()
	g, _ := parsed(text)
	return b.rooted(t, b.nodeOf(t, g))
}

func (b *bed) nodeOf(t *testing.T, g *grown) api.Node {
	t.Helper()
	n := api.Node{Kind: api.KindLeaf, Entries: b.of(g.keys...)}
	for _, k := range g.kids {
		n.Kind = api.KindInner
		n.Entries = append(n.Entries, api.Entry{Key: k.first(), Page: b.made(t, b.nodeOf(t, k))})
	}
	return n
}

// read: the tree that stands there, whose pages go to known; it is held against what a tree is on the way.
func (b *bed) read(t *testing.T, page int, known map[*grown]int) *grown {
	t.Helper()
	if page == api.None {
		return nil
	}
	n, e := b.Get(page)
	if e != api.OK || n.Kind == api.KindData {
		t.Fatalf("page %d of a tree: %v, %d", page, n, e)
	}
	g := &grown{inner: n.Kind == api.KindInner}
	known[g] = page
	for _, x := range n.Entries {
		if !g.inner {
			g.keys = append(g.keys, x.Key)
			continue
		}
		k := b.read(t, x.Page, known)
		g.kids = append(g.kids, k)
		if k.first() != x.Key || k.inner != g.kids[0].inner {
			t.Fatalf("page %d, below %d: the key %d, not %d; or another height", x.Page, page, k.first(), x.Key)
		}
	}
	return g
}

func (b *bed) wantText(t *testing.T, root int, want string) {
	t.Helper()
	if text := b.read(t, root, map[*grown]int{}).text(); text != want {
		t.Errorf("the tree %d: %s, not %s", root, text, want)
	}
}

// wantNodes: the page is that tree's, of nodes on the pages that are known, or on others. How many others there are.
func (b *bed) wantNodes(t *testing.T, page int, g *grown, known map[*grown]int, taken map[int]bool) int {
	t.Helper()
	was, elder := known[g]
	if elder != taken[page] || elder && page != was {
		t.Fatalf("%s is on page %d, not on %d; made anew: %t", g.text(), page, was, !elder)
	}
	if elder {
		return 0
	}
	if !b.Pool().Fresh(page) {
		t.Fatal("page", page, "wasn't taken")
	}
	n, _ := b.Get(page)
	anew := 1
	for i, k := range g.kids {
		if x := n.Entries[i]; x.Key != k.first() {
			t.Fatal(page, x, k.text())
		}
		anew += b.wantNodes(t, n.Entries[i].Page, k, known, taken)
	}
	return anew
}

// wantAsInMemory: Cut of a key that is there does what it does to the same tree in memory, with the same nodes made anew, and the elder tree stays. The new root.
func (b *bed) wantAsInMemory(t *testing.T, root, key int) int {
	t.Helper()
	known, taken := map[*grown]int{}, map[int]bool{}
	g := b.read(t, root, known)
	for _, page := range known {
		taken[page] = true
	}
	list, _ := b.List(root)
	was := *b.Pool()
	next := b.wantCut(t, root, key)
	h := g.cut(key)
	b.wantText(t, next, h.text())
	b.wantText(t, root, g.text())
	b.wantList(t, root, list...)
	b.wantList(t, next, slices.DeleteFunc(list, func(x api.Entry) bool { return x.Key == key })...)
	if h == nil {
		b.wantStays(t, func() {})
		b.wantFree(t, was.Free())
		return next
	}
	anew := b.wantNodes(t, next, h, known, taken)
	b.wantFree(t, was.Free()-anew)
	if _, elder := known[h]; !elder && b.Pool().Count(next) != 0 {
		t.Fatal("the root is held already:", next)
	}
	// Once the new tree is given up, all is as it was.
	b.hold(t, next)
	b.wantCounts(t, root, next)
	b.drop(t, next)
	if counts := b.Pool().Counts(); counts != was.Counts() && anew > 0 {
		t.Fatal("the counts aren't as they were")
	}
	if anew > 0 {
		next, _, _ = b.Cut(root, key)
	}
	return next
}

func (b *bed) swap(t *testing.T, old, next int) {
	t.Helper()
	if e := b.Swap(old, next); e != api.OK {
		t.Fatal(old, next, e)
	}
}

func TestLimits(t *testing.T) {
	if api.MaxEntries != 6 || api.MaxHeight != 8 || api.MaxBlocks != 64 || api.None != -1 || api.KindLeaf != 2 || api.KindInner != 3 {
		t.Error(api.MaxEntries, api.MaxHeight, api.MaxBlocks, api.None, api.KindLeaf, api.KindInner)
	}
	if api.ErrPage != 41 || api.ErrPower != 42 || api.ErrFault != 43 || api.ErrSpace != 71 || api.ErrCount != 72 || api.ErrFree != 73 || api.ErrNode != 81 || api.ErrBlock != 101 {
		t.Error("an error has another number")
	}
}

func TestExample(t *testing.T) {
	b := fresh(t, 8, 1)
	root := b.built(t, 1, 2)
	next := b.wantCut(t, root, 1)
	b.wantList(t, next, b.of(2)...)
	if n, e := b.Get(next); !leaf.Same(n, leafOf(2, b.blocks[0])) || e != api.OK || b.Pool().Count(next) != 0 || !b.Pool().Fresh(next) {
		t.Error("not a leaf that nobody holds yet:", n, e)
	}
	b.wantList(t, root, b.of(1, 2)...)
	b.wantStays(t, func() { b.wantNothing(t, root, 3) })
}

// TestNothing: None is a tree in which nothing is.
func TestNothing(t *testing.T) {
	for _, b := range []*bed{fresh(t, 8, 1), fresh(t, 0, 0)} {
		b.wantStays(t, func() {
			for key := range 64 {
				b.wantNothing(t, api.None, key)
			}
			if root := b.wantTrim(t, api.None, upTo(64)...); root != api.None {
				t.Error(root)
			}
			if root := b.wantTrim(t, api.None); root != api.None {
				t.Error(root)
			}
		})
	}
}

// TestCutOne: what becomes one node, what doesn't, and what the root is.
func TestCutOne(t *testing.T) {
	for _, x := range []struct {
		text string
		key  int
		want string
	}{
		// A leaf.
		{"(1 2)", 1, "(2)"},
		{"(1 2)", 2, "(1)"},
		{"(0 63)", 0, "(63)"},
		{"(0 63)", 63, "(0)"},
		{"(0 7 9 11 40 63)", 11, "(0 7 9 40 63)"},
		{"(0)", 0, ""},
		{"(63)", 63, ""},
		// One with the one ahead, up to six entries; the inner node of one entry isn't made.
		{"((0 1 2) (3 4 5 6))", 3, "(0 1 2 4 5 6)"},
		{"((0 1 2) (3 4 5 6))", 6, "(0 1 2 3 4 5)"},
		{"((0 1 2 3) (4 5 6 7))", 4, "((0 1 2 3) (5 6 7))"},
		{"((0 1 2 3 4) (5 6))", 5, "(0 1 2 3 4 6)"},
		{"((0 1 2 3 4 5) (6 7))", 6, "((0 1 2 3 4 5) (7))"},
		{"((0) (1 2 3 4 5 6))", 4, "(0 1 2 3 5 6)"},
		// One with the one behind.
		{"((0 1 2) (3 4 5 6))", 0, "(1 2 3 4 5 6)"},
		{"((0 1 2) (3 4 5 6))", 2, "(0 1 3 4 5 6)"},
		{"((0 1 2 3) (4 5 6 7))", 0, "((1 2 3) (4 5 6 7))"},
		{"((0 1 2 3 4) (5 6 7))", 2, "((0 1 3 4) (5 6 7))"},
		{"((0 1 2 3 4 5) (6))", 5, "(0 1 2 3 4 6)"},
		{"((0 1) (2 3 4 5 6 7))", 0, "((1) (2 3 4 5 6 7))"},
		// The one ahead comes first.
		{"((0 1) (2 3 4) (5 6))", 3, "((0 1 2 4) (5 6))"},
		{"((0 1 2 3) (4 5 6) (7))", 6, "((0 1 2 3 4 5) (7))"},
		// The one ahead has too many.
		{"((0 1 2 3 4) (5 6 7) (8 9))", 6, "((0 1 2 3 4) (5 7 8 9))"},
		{"((0 1 2 3 4 5) (6 7 8) (9 10 11 12))", 6, "((0 1 2 3 4 5) (7 8 9 10 11 12))"},
		// Both have.
		{"((0 1 2 3 4) (5 6 7) (8 9 10 11 12))", 6, "((0 1 2 3 4) (5 7) (8 9 10 11 12))"},
		{"((0 1 2 3 4 5) (6 7) (8 9 10 11 12 13))", 7, "((0 1 2 3 4 5) (6) (8 9 10 11 12 13))"},
		// Not with others than those, and not with both.
		{"((0) (1 2 3 4 5 6) (7 8))", 7, "((0) (1 2 3 4 5 6) (8))"},
		{"((0 1) (2 3 4 5 6 7) (8))", 0, "((1) (2 3 4 5 6 7) (8))"},
		{"((0) (1 2) (3) (4))", 1, "((0 2) (3) (4))"},
		{"((0 1) (2) (3))", 0, "((1 2) (3))"},
		// Empty ones are left out, and those beside them don't become one.
		{"((0 1) (2) (3 4))", 2, "((0 1) (3 4))"},
		{"((0) (1 2) (3))", 0, "((1 2) (3))"},
		{"((0) (1 2) (3))", 3, "((0) (1 2))"},
		{"((0) (1 2 3))", 0, "(1 2 3)"},
		{"((0 1 2) (63))", 63, "(0 1 2)"},
		// Only those of the same parent.
		{"(((0 1 2 3 4 5) (6 7)) ((8 9) (10 11 12 13 14 15)))", 7, "((0 1 2 3 4 5) (6) (8 9) (10 11 12 13 14 15))"},
		{"(((0 1 2 3 4 5) (6 7)) ((8 9) (10 11 12 13 14 15)))", 8, "((0 1 2 3 4 5) (6 7) (9) (10 11 12 13 14 15))"},
		{"(((0 1)) ((2) (3) (4) (5) (6) (7)))", 0, "(((1)) ((2) (3) (4) (5) (6) (7)))"},
		{"(((0) (1) (2) (3) (4) (5)) ((6 7)))", 7, "(((0) (1) (2) (3) (4) (5)) ((6)))"},
		// Inner nodes: with the one ahead, the one behind, neither; changed is each on the way.
		{"(((0) (1)) ((2) (3) (4) (5) (6)))", 6, "((0) (1) (2) (3) (4) (5))"},
		{"(((0) (1)) ((2) (3) (4) (5) (6)))", 0, "((1) (2) (3) (4) (5) (6))"},
		{"(((0) (1)) ((2) (3) (4) (5) (6) (7)))", 0, "(((1)) ((2) (3) (4) (5) (6) (7)))"},
		{"(((1)) ((2) (3) (4) (5) (6) (7)))", 7, "((1) (2) (3) (4) (5) (6))"},
		{"(((1)) ((2) (3) (4) (5) (6) (7)))", 1, "((2) (3) (4) (5) (6) (7))"},
		{"(((0 1 2 3) (4 5 6 7)) ((10 11 12 13) (14 15 16 17)))", 0, "((1 2 3) (4 5 6 7) (10 11 12 13) (14 15 16 17))"},
		{"(((0) (1) (2)) ((3) (4 5 6 7 8 9)) ((10) (11)))", 9, "(((0) (1) (2) (3 4 5 6 7 8)) ((10) (11)))"},
		{"(((0) (1) (2) (3) (4)) ((5 6 7) (8 9 10 11)) ((12) (13)))", 5, "(((0) (1) (2) (3) (4) (6 7 8 9 10 11)) ((12) (13)))"},
		{"(((0) (1) (2) (3) (4)) ((5 6 7 20) (21 22 23 24)) ((30) (31)))", 5, "(((0) (1) (2) (3) (4)) ((6 7 20) (21 22 23 24) (30) (31)))"},
		{"(((0) (1) (2) (3) (4)) ((5)) ((6) (7)))", 5, "(((0) (1) (2) (3) (4)) ((6) (7)))"},
		// A root of one entry is left out, however often.
		{"((1 2))", 1, "(2)"},
		{"((1))", 1, ""},
		{"((((63))))", 63, ""},
		{"((((0 63))))", 63, "(0)"},
		{"(((1 2) (3 4)))", 1, "(2 3 4)"},
		{"((((1 2) (3 4 5 6 7 8))))", 1, "((2) (3 4 5 6 7 8))"},
		// What isn't made anew stays as it is.
		{"(((0)) ((1)))", 0, "((1))"},
		{"(((0)) ((1)))", 1, "((0))"},
	} {
		b := fresh(t, 60, 3)
		root := b.laid(t, x.text)
		b.wantCounts(t, root)
		next := b.wantAsInMemory(t, root, x.key)
		b.wantText(t, next, x.want)
		b.swap(t, root, next)
		b.wantCounts(t, next)
		if t.Failed() {
			t.Fatal("Cut of", x.key, "in", x.text)
		}
	}
}

// orders: all 64 keys, in several orders.
func orders() map[string][]int {
	rising := upTo(64)
	falling := slices.Clone(rising)
	slices.Reverse(falling)
	l := map[string][]int{"rising": rising, "falling": falling}
	for _, step := range []int{5, 27, 37} {
		var mixed []int
		for i := range 64 {
			mixed = append(mixed, i*step%64)
		}
		l["by steps of "+strconv.Itoa(step)] = mixed
	}
	for seed := range int64(4) {
		l["mixed "+strconv.FormatInt(seed, 10)] = rand.New(rand.NewSource(seed)).Perm(64)
	}
	return l
}

// TestCutAllKeys: of trees that were built in all orders, in all orders, down to None.
func TestCutAllKeys(t *testing.T) {
	for in, keys := range orders() {
		for out, cuts := range orders() {
			b := fresh(t, 60, 3)
			root := b.built(t, keys...)
			for i, key := range cuts {
				next := b.wantAsInMemory(t, root, key)
				b.swap(t, root, next)
				root = next
				b.wantCounts(t, root)
				b.wantList(t, root, b.of(slices.Sorted(slices.Values(cuts[i+1:]))...)...)
				if page, e := b.Find(root, key); page != api.None || e != api.OK {
					t.Error("Find of", key, page, e)
				}
				b.wantStays(t, func() { b.wantNothing(t, root, key) })
				if t.Failed() {
					t.Fatal(in, out, i, key)
				}
			}
			if root != api.None {
				t.Error("something is left:", root)
			}
			b.wantFree(t, 57)
		}
	}
}

// TestPutsAndCuts: mixed, as long as one likes: a tree, and never one that is too high.
func TestPutsAndCuts(t *testing.T) {
	for seed := range int64(30) {
		r := rand.New(rand.NewSource(seed))
		b := fresh(t, 90, 3)
		root := api.None
		want := map[int]int{}
		for step := range 200 {
			key := r.Intn(64)
			if step%80 > 50 {
				key = (step + int(seed)) % 64
			}
			next := root
			if _, there := want[key]; !there || r.Intn(3) == 0 {
				page := b.blocks[r.Intn(3)]
				next, _ = b.Put(root, key, page)
				want[key] = page
			} else {
				next = b.wantAsInMemory(t, root, key)
				delete(want, key)
			}
			b.swap(t, root, next)
			root = next
			b.wantCounts(t, root)
			for key := range 64 {
				page, there := want[key]
				if !there {
					page = api.None
					b.wantNothing(t, root, key)
				}
				if p, e := b.Find(root, key); p != page || e != api.OK {
					t.Fatal(seed, step, key, p, page, e)
				}
			}
			if h, e := b.Height(root); h > 3 || e != api.OK {
				t.Fatal("so high a tree:", h, e)
			}
			if n, _ := b.Get(root); n.Kind == api.KindInner && len(n.Entries) == 1 {
				t.Fatal("the root has one entry:", n)
			}
		}
	}
}

// TestManyVersions: each elder tree is what it was, and what they share is given up with the last one.
func TestManyVersions(t *testing.T) {
	b := fresh(t, 240, 3)
	roots, r := []int{b.built(t, upTo(40)...)}, rand.New(rand.NewSource(3))
	lists := [][]api.Entry{b.of(upTo(40)...)}
	for range 40 {
		i := r.Intn(len(roots))
		key := lists[i][r.Intn(len(lists[i]))].Key
		next := b.wantCut(t, roots[i], key)
		b.swap(t, api.None, next)
		list := slices.DeleteFunc(slices.Clone(lists[i]), func(x api.Entry) bool { return x.Key == key })
		roots, lists = append(roots, next), append(lists, list)
		for i, root := range roots {
			b.wantList(t, root, lists[i]...)
		}
		b.wantCounts(t, roots...)
	}
	for len(roots) > 0 {
		i := r.Intn(len(roots))
		b.swap(t, roots[i], api.None)
		roots = slices.Delete(roots, i, i+1)
		b.wantCounts(t, roots...)
	}
	b.wantFree(t, 237)
}

// TestCutOfWhatIsntThere: between, below and above what is in the tree.
func TestCutOfWhatIsntThere(t *testing.T) {
	for _, text := range []string{"(5 9)", "((5 9) (20 30))", "(((5) (9)) ((20 22) (30 32)))", "((((40))))"} {
		b := fresh(t, 30, 3)
		root := b.laid(t, text)
		l, _ := b.List(root)
		b.wantStays(t, func() {
			for key := range 64 {
				if !slices.ContainsFunc(l, func(x api.Entry) bool { return x.Key == key }) {
					b.wantNothing(t, root, key)
				}
			}
		})
	}
}

// TestCutByHand: inner nodes whose entries' keys are below what is under them.
func TestCutByHand(t *testing.T) {
	b := fresh(t, 40, 3)
	k, l, m := b.blocks[0], b.blocks[1], b.blocks[2]
	one, two, three := b.made(t, leafOf(4, k, 9, l)), b.made(t, leafOf(20, m)), b.made(t, leafOf(40, l, 63, k))
	left, right := b.made(t, innerOf(3, one, 20, two)), b.made(t, innerOf(33, three))
	root := b.rooted(t, innerOf(2, left, 33, right))
	b.wantStays(t, func() {
		for _, key := range []int{0, 1, 2, 3, 5, 8, 10, 19, 21, 32, 33, 39, 41, 62} {
			b.wantNothing(t, root, key)
		}
	})
	// The leaf and the inner node are one with those behind them; an entry that isn't touched has the key that it had.
	next := b.wantCut(t, root, 4)
	n, _ := b.Get(next)
	if len(n.Entries) != 2 || !leaf.Same(n, innerOf(9, n.Entries[0].Page, 33, three)) {
		t.Fatal(n)
	}
	if n, _ := b.Get(n.Entries[0].Page); !leaf.Same(n, leafOf(9, l, 20, m)) {
		t.Error(n)
	}
	b.wantList(t, next, entries(9, l, 20, m, 40, l, 63, k)...)
	b.hold(t, next)
	b.wantCounts(t, root, next)
	b.drop(t, next)
	b.wantCounts(t, root)
	// What becomes empty takes no more with it than its own parent.
	next = b.wantCut(t, b.wantCut(t, root, 63), 40)
	b.wantList(t, next, entries(4, k, 9, l, 20, m)...)
	if next := b.wantCut(t, root, 20); next == root {
		t.Error(next)
	}
}

// TestSiblingIsTheRoot: the one that is left is the elder tree's, and nobody holds it once more.
func TestSiblingIsTheRoot(t *testing.T) {
	for _, text := range []string{"((0) (1 2 3))", "(((0)) ((1) (2 3 4) (5)))", "((((0))) (((1) (2)) ((3) (4))))"} {
		b := fresh(t, 30, 3)
		root := b.laid(t, text)
		n, _ := b.Get(root)
		b.wantStays(t, func() {
			if next := b.wantCut(t, root, 0); next != n.Entries[1].Page {
				t.Error(next, n)
			}
		})
		next := b.wantTrim(t, root, 0)
		b.wantCounts(t, next)
		if next != n.Entries[1].Page {
			t.Error(next, n)
		}
	}
}

func TestCutOfWrongKeys(t *testing.T) {
	b := fresh(t, 40, 1)
	root := b.built(t, upTo(30)...)
	b.wantStays(t, func() {
		for _, key := range wrongKeys {
			// Ahead of the store's errors: no root is asked.
			for _, page := range []int{root, api.None, b.blocks[0], 39, 40, -2, math.MinInt, math.MaxInt} {
				b.wantNoCut(t, page, key, api.ErrBlock)
				b.wantNoTrim(t, api.ErrBlock, page, key)
				b.wantNoTrim(t, api.ErrBlock, page, key, 1)
			}
		}
		b.d.Cut(0)
		b.d.Spoil(root+api.FirstPage, true)
		b.wantNoCut(t, root, 64, api.ErrBlock)
		b.wantNoCut(t, root, -1, api.ErrBlock)
		if b.d.Down() {
			t.Error("something was written")
		}
	})
}

// TestNoTree: a root that there isn't, that nobody has, or that is a block.
func TestNoTree(t *testing.T) {
	b := fresh(t, 20, 2)
	gone := b.built(t, 1, 2)
	b.swap(t, gone, api.None)
	b.wantStays(t, func() {
		for _, root := range []int{-2, -3, -4, -5, gone, 5, 19, 20, 24, 239, 240, 256, 1 << 32, math.MinInt, math.MinInt + 4, math.MaxInt, math.MaxInt - 3} {
			for key := range 64 {
				b.wantNoCut(t, root, key, api.ErrFree)
				b.wantNoTrim(t, api.ErrFree, root, key)
				b.wantNoTrim(t, api.ErrFree, root, key, 64)
			}
		}
		for key := range 64 {
			b.wantNoCut(t, b.blocks[1], key, api.ErrNode)
			b.wantNoTrim(t, api.ErrNode, b.blocks[1], key, -1)
		}
	})
	// Below the root, too.
	root := b.rooted(t, innerOf(1, b.made(t, leafOf(1, b.blocks[0])), 5, b.blocks[1], 9, 2))
	b.wantStays(t, func() {
		b.wantNoCut(t, root, 6, api.ErrNode)
		b.wantNothing(t, root, 0)
		b.wantNothing(t, root, 2)
	})
}

// TestWhatCantBeRead: the first error, of a node on the way, or of one that is asked whether it has room.
func TestWhatCantBeRead(t *testing.T) {
	for _, x := range []struct {
		text, bad string
		key       int
		want      api.Errno
	}{
		{"(1 2)", "(1 2)", 1, api.ErrFault},
		{"(1 2)", "(1 2)", 3, api.ErrFault},
		{"((0 1 2) (3 4 5) (6 7 8))", "(3 4 5)", 3, api.ErrFault},
		{"((0 1 2) (3 4 5) (6 7 8))", "(3 4 5)", 4, api.ErrFault},
		{"((0 1 2) (3 4 5) (6 7 8))", "((0 1 2) (3 4 5) (6 7 8))", 3, api.ErrFault},
		{"((0 1 2) (3 4 5) (6 7 8))", "(0 1 2)", 3, api.ErrFault},
		{"((0 1 2) (3 4 5) (6 7 8))", "(6 7 8)", 3, api.OK},
		{"((0 1 2 3 4) (5 6 7) (8 9 10))", "(8 9 10)", 6, api.ErrFault},
		{"((0 1 2) (3 4 5) (6 7 8))", "(3 4 5)", 0, api.ErrFault},
		{"((0 1 2) (3 4 5) (6 7 8))", "(6 7 8)", 0, api.OK},
		{"((0 1 2) (3) (6 7 8))", "(0 1 2)", 3, api.OK},
		{"((0 1 2) (3) (6 7 8))", "(6 7 8)", 3, api.OK},
		{"(((0) (1)) ((2) (3)) ((4) (5)))", "((0) (1))", 3, api.ErrFault},
		{"(((0) (1)) ((2) (3)) ((4) (5)))", "((4) (5))", 3, api.OK},
		{"(((0) (1) (2) (3) (4)) ((5) (6 7)) ((8) (9)))", "((8) (9))", 7, api.OK},
		{"(((0) (1) (2) (3) (4) (10)) ((11) (12 13)) ((14) (15)))", "((14) (15))", 13, api.ErrFault},
		{"(((0) (1)) ((2) (3)) ((4) (5)))", "(0)", 3, api.OK},
		{"(((0) (1)) ((2)) ((4) (5)))", "((0) (1))", 2, api.OK},
	} {
		b := fresh(t, 40, 3)
		root := b.laid(t, x.text)
		known := map[*grown]int{}
		b.read(t, root, known)
		page := api.None
		for g, at := range known {
			if g.text() == x.bad {
				page = at
			}
		}
		b.d.Spoil(page+api.FirstPage, true)
		if x.want == api.OK {
			b.wantUndone(t, func() { b.wantCut(t, root, x.key) })
			continue
		}
		b.wantNoCut(t, root, x.key, api.ErrFault)
		b.d.Spoil(page+api.FirstPage, false)
		good, _ := b.d.Read(page + api.FirstPage)
		bad := good
		bad[0] ^= 1
		b.d.Write(page+api.FirstPage, bad)
		b.wantNoCut(t, root, x.key, api.ErrNode)
		b.wantUndone(t, func() { b.wantNoTrim(t, api.ErrNode, root, x.key) })
		b.d.Write(page+api.FirstPage, good)
		b.wantText(t, root, x.text)
		b.wantCounts(t, root)
		if t.Failed() {
			t.Fatal(x)
		}
	}
}

func TestCutWithoutPower(t *testing.T) {
	b := fresh(t, 60, 3)
	root := b.built(t, upTo(30)...)
	// Three nodes are made, if there is power.
	for acts := range 3 {
		b.d.Cut(acts)
		b.wantNoCut(t, root, 29, api.ErrPower)
		if !b.d.Down() {
			t.Error("it isn't down")
		}
		// It can be read all the same.
		b.wantNoCut(t, root, 4, api.ErrPower)
		b.wantNothing(t, root, 30)
		b.wantList(t, root, b.of(upTo(30)...)...)
		b.wantUndone(t, func() { b.wantNoTrim(t, api.ErrPower, root, 40, 4) })
		keep := slices.Repeat([]byte{255}, len(b.d.Pending()))
		b.d.Crash(keep...)
		b.wantCounts(t, root)
	}
	b.d.Cut(3)
	b.swap(t, root, b.wantCut(t, root, 29))
	// Where nothing is written, nothing is needed.
	b = fresh(t, 20, 3)
	one := b.laid(t, "((50) (60 61 62))")
	b.d.Cut(0)
	b.wantText(t, b.wantCut(t, one, 50), "(60 61 62)")
	if b.d.Down() {
		t.Error("something was written")
	}
}

// TestCutWithTooFewPages: nothing is changed, neither with none that is free nor with one too few.
func TestCutWithTooFewPages(t *testing.T) {
	for _, count := range []int{1, 2, 6, 7, 20, 21, 22, 30, 64} {
		b := fresh(t, 120, 3)
		root := b.built(t, upTo(count)...)
		needs := make([]int, count)
		for key := range count {
			b.wantUndone(t, func() {
				free := b.Pool().Free()
				b.wantCut(t, root, key)
				needs[key] = free - b.Pool().Free()
			})
		}
		for free := 3; free >= 0; free-- {
			b.leave(t, free)
			for key, needed := range needs {
				if needed > free {
					b.wantNoCut(t, root, key, api.ErrSpace)
					b.wantFree(t, free)
					b.wantUndone(t, func() { b.wantNoTrim(t, api.ErrSpace, root, 63, key, 64) })
				} else {
					b.wantUndone(t, func() { b.wantCut(t, root, key); b.wantFree(t, free-needed) })
				}
			}
			b.wantList(t, root, b.of(upTo(count)...)...)
		}
	}
	// How many: a leaf; none of it; with a root above; two and a root.
	for text, want := range map[string]int{"(1 2)": 1, "(1)": 0, "((1 2) (4 5 6 7 8 9))": 2, "((1 2) (4 5))": 1, "((1) (2))": 0, "((1) (4) (5))": 1, "(((1 2) (3)) ((4) (5) (6) (7) (8) (9)))": 3} {
		b := fresh(t, 40, 3)
		root := b.laid(t, text)
		b.leave(t, want)
		b.wantUndone(t, func() { b.wantCut(t, root, 1); b.wantFree(t, 0) })
		if want > 0 {
			b.leave(t, want-1)
			b.wantNoCut(t, root, 1, api.ErrSpace)
		}
	}
}

// TestHeldTooOften: of a page that is held 255 times no node more can be made.
func TestHeldTooOften(t *testing.T) {
	b := fresh(t, 60, 2)
	often, other := b.blocks[0], b.blocks[1]
	root := b.rooted(t, leafOf(1, often, 2, other, 3, other))
	b.holdOften(t, often, 254)
	b.wantUndone(t, func() { b.wantCut(t, root, 2) })
	b.holdOften(t, often, 255)
	b.wantNoCut(t, root, 2, api.ErrCount)
	b.wantUndone(t, func() { b.wantNoTrim(t, api.ErrCount, root, 0, 2, 64) })
	b.wantUndone(t, func() { b.wantCut(t, root, 1) }) // the one that is held too often is left out
	if b.Pool().Count(often) != 255 {
		t.Error(b.Pool().Count(often))
	}

	// A leaf beside the one that is changed: the node above holds it once more.
	beside := b.rooted(t, leafOf(30, other))
	top := b.rooted(t, innerOf(0, b.made(t, leafOf(0, other, 1, other)), 9, b.made(t, leafOf(9, other, 10, other, 11, other, 12, other, 13, other, 14, other)), 30, beside))
	b.holdOften(t, beside, 255)
	b.wantNoCut(t, top, 0, api.ErrCount)
	b.wantUndone(t, func() { b.wantCut(t, top, 9) }) // as one with it: it isn't a child any more
	b.wantUndone(t, func() { b.wantCut(t, top, 30) })
	b.wantList(t, top, entries(0, other, 1, other, 9, other, 10, other, 11, other, 12, other, 13, other, 14, other, 30, other)...)

	// It is the root, if nothing else is left; but as a root it can't be held.
	pair := innerOf(3, b.made(t, leafOf(3, other)), 30, beside)
	if _, e := b.Make(pair); e != api.ErrCount {
		t.Error(e)
	}
	b.drop(t, beside)
	two := b.rooted(t, pair)
	if next := b.wantCut(t, two, 3); next != beside {
		t.Error(next)
	}
	b.wantUndone(t, func() { b.wantNoTrim(t, api.ErrCount, two, 3) })

	// The root itself.
	b.holdOften(t, root, 255)
	b.drop(t, often)
	b.wantUndone(t, func() {
		next := b.wantTrim(t, root, 3)
		if b.Pool().Count(root) != 254 || b.Pool().Count(next) != 1 {
			t.Error(b.Pool().Count(root), b.Pool().Count(next))
		}
	})
	b.wantStays(t, func() {
		if next := b.wantTrim(t, root, 4, 5); next != root {
			t.Error(next)
		}
	})
}

// TestTrim: the keys that are there are gone, and the tree is held in the place of the elder one.
func TestTrim(t *testing.T) {
	for _, count := range []int{0, 1, 6, 7, 22, 64} {
		for _, keys := range [][]int{{}, {0}, {63}, {5}, {5, 5, 63, 0}, {40, 41}, upTo(7), upTo(count), upTo(64), orders()["falling"], orders()["by steps of 27"]} {
			b := fresh(t, 60, 3)
			root := b.built(t, upTo(count)...)
			var want []int
			for key := range count {
				if !slices.Contains(keys, key) {
					want = append(want, key)
				}
			}
			next := b.wantTrim(t, root, keys...)
			b.wantList(t, next, b.of(want...)...)
			b.wantCounts(t, next)
			if next != root && len(want) == count || (next == api.None) != (len(want) == 0) {
				t.Error(count, keys, next)
			}
			known := map[*grown]int{}
			b.read(t, next, known)
			b.wantFree(t, 57-len(known))
		}
	}
}

// TestTrimStays: where nothing is to be taken out, nothing is done.
func TestTrimStays(t *testing.T) {
	b := fresh(t, 60, 3)
	for _, root := range []int{api.None, b.built(t, 5), b.built(t, upTo(30)...)} {
		b.wantStays(t, func() {
			for _, keys := range [][]int{nil, {}, {40}, {63, 31, 40, 40}} {
				if next := b.wantTrim(t, root, keys...); next != root {
					t.Error(root, next)
				}
			}
		})
	}
}

// TestTrimIsCuts: as if each was Cut, and Swapped, by hand.
func TestTrimIsCuts(t *testing.T) {
	r := rand.New(rand.NewSource(7))
	for range 60 {
		one, two := fresh(t, 60, 3), fresh(t, 60, 3)
		keys := r.Perm(64)[:r.Intn(65)]
		root := one.built(t, keys...)
		if two.built(t, keys...) != root {
			t.Fatal("another tree")
		}
		trims := r.Perm(64)[:r.Intn(65)]
		next, e := two.Trim(root, trims...)
		for _, key := range trims {
			page, was, e := one.Cut(root, key)
			if e != api.OK || was != slices.Contains(keys, key) {
				t.Fatal(page, was, e)
			}
			if was {
				one.swap(t, root, page)
			}
			root = page
		}
		if next != root || e != api.OK || *one.Pool() != *two.Pool() {
			t.Fatal("another tree:", next, root, e)
		}
		two.wantCounts(t, next)
	}
}

// TestTrimFails: behind good keys; Undo makes it undone.
func TestTrimFails(t *testing.T) {
	b := fresh(t, 60, 3)
	root := b.built(t, upTo(30)...)
	for _, key := range wrongKeys {
		for _, keys := range [][]int{{key}, {1, key}, {key, 1}, {1, 2, 40, key}, append(upTo(30), key), append(upTo(30), key, 3)} {
			b.wantUndone(t, func() { b.wantNoTrim(t, api.ErrBlock, root, keys...) })
			b.wantList(t, root, b.of(upTo(30)...)...)
			b.wantCounts(t, root)
		}
	}
	// What was done is done: the root that was handed in is dropped.
	b.wantNoTrim(t, api.ErrBlock, root, 1, 64)
	if b.Pool().Count(root) != 0 {
		t.Error("the root is held", b.Pool().Count(root), "times")
	}
}

// TestTrimInLittleRoom: what a Cut made and the next one leaves out is free at once, so that three pages are enough for all keys.
func TestTrimInLittleRoom(t *testing.T) {
	for name, keys := range orders() {
		b := fresh(t, 60, 3)
		root := b.built(t, upTo(64)...)
		b.leave(t, 3)
		if next, e := b.Trim(root, keys...); next != api.None || e != api.OK {
			t.Error(name, next, e)
		}
	}
}

// tower: a tree of one node at a depth, of these keys, which nobody holds yet.
func (b *bed) tower(t *testing.T, height int, keys ...int) int {
	t.Helper()
	page := b.made(t, api.Node{Kind: api.KindLeaf, Entries: b.of(keys...)})
	for range height - 1 {
		page = b.made(t, innerOf(keys[0], page))
	}
	return page
}

// TestMaxHeight: eight nodes above one another are a tree; one more is gone down no more.
func TestMaxHeight(t *testing.T) {
	for height := 1; height <= api.MaxHeight; height++ {
		b := fresh(t, 40, 2)
		root := b.tower(t, height, 7, 9)
		b.hold(t, root)
		b.wantNothing(t, root, 8)
		next := b.wantAsInMemory(t, root, 7)
		b.wantText(t, next, "(9)")
		b.swap(t, root, next)
		b.wantCounts(t, next)
		b.swap(t, next, b.wantCut(t, next, 9))
		b.wantCounts(t)
	}
	// Of the greatest height, and each root of two entries.
	b := fresh(t, 60, 2)
	root := b.made(t, leafOf(0, b.blocks[0], 1, b.blocks[1]))
	for i := range api.MaxHeight - 1 {
		root = b.made(t, innerOf(0, root, 40+i, b.tower(t, i+1, 40+i)))
	}
	b.hold(t, root)
	if h, e := b.Height(root); h != 8 || e != api.OK {
		t.Fatal(h, e)
	}
	next := b.wantAsInMemory(t, root, 40)
	if h, e := b.Height(next); h > 8 || e != api.OK {
		t.Fatal(h, e)
	}
	for _, height := range []int{9, 10, 20} {
		b := fresh(t, 40, 1)
		root := b.tower(t, height, 7, 9)
		b.hold(t, root)
		b.wantStays(t, func() {
			for _, key := range []int{7, 8, 9, 63} {
				b.wantNoCut(t, root, key, api.ErrNode)
				b.wantNoTrim(t, api.ErrNode, root, key)
			}
		})
	}
}

// TestUnderItself: a node that is among its own children, or is so by way of others: the calls end.
func TestUnderItself(t *testing.T) {
	b := fresh(t, 40, 1)
	one := b.made(t, leafOf(0, b.blocks[0]))
	x := b.rooted(t, innerOf(0, one))
	y := b.rooted(t, innerOf(0, x))
	for _, n := range []api.Node{
		innerOf(0, x), innerOf(0, one, 1, x), innerOf(0, x, 1, one), innerOf(0, y), innerOf(0, one, 9, y),
		innerOf(0, x, 1, x, 2, x, 3, x, 4, x, 5, x), innerOf(0, one, 1, x, 2, x, 3, x, 4, x, 5, x), innerOf(0, one, 1, y, 2, x, 3, y, 4, x, 5, y),
		leafOf(0, x), leafOf(0, y, 1, x),
	} {
		b.lay(t, x, n)
		for _, root := range []int{x, y} {
			for key := -1; key <= 64; key++ {
				b.wantUndone(t, func() { b.ends(t, root, key, key+1, 0) })
			}
		}
	}
	b.lay(t, x, innerOf(0, x))
	b.wantStays(t, func() {
		b.wantNoCut(t, x, 5, api.ErrNode)
		b.wantNoTrim(t, api.ErrNode, x, 5)
	})
}

// ends: Cut and Trim answer something, and beside an error nothing.
func (b *bed) ends(t *testing.T, root int, keys ...int) {
	t.Helper()
	was := *b.Pool()
	next, did, e := b.Cut(root, keys[0])
	if e != api.OK && (next != api.None || did || *b.Pool() != was) || !did && next != root && e == api.OK {
		t.Fatal(root, keys, next, did, e)
	}
	if next, e := b.Trim(root, keys...); e != api.OK && next != api.None {
		t.Fatal(root, keys, next, e)
	}
}

// TestWhateverStandsThere: nodes of any children on a disk, and any calls: all end.
func TestWhateverStandsThere(t *testing.T) {
	r := rand.New(rand.NewSource(11))
	done := 0
	for range 500 {
		size := 1 + r.Intn(20)
		b := fresh(t, size, 0)
		for range size {
			page, _ := b.Pool().Take()
			for range r.Intn(3) {
				b.Hold(page)
			}
			n := api.Node{Kind: api.KindLeaf + r.Intn(2)}
			for key := r.Intn(8); key < 64 && len(n.Entries) < 6; key += 1 + r.Intn(20) {
				n.Entries = append(n.Entries, api.Entry{Key: key, Page: r.Intn(size)})
			}
			if r.Intn(8) == 0 {
				n = data(1)
			}
			b.lay(t, page, n)
			if r.Intn(6) == 0 {
				b.Drop(page)
			}
		}
		for range 40 {
			b.ends(t, r.Intn(size+3)-2, r.Intn(70)-3, r.Intn(64), r.Intn(70)-3)
			if _, did, _ := b.Cut(r.Intn(size), r.Intn(64)); did {
				done++
			}
		}
	}
	if done == 0 {
		t.Error("nothing was cut")
	}
}

// TestUndo: whatever a store with too few pages did, Undo brings back all trees.
func TestUndo(t *testing.T) {
	r := rand.New(rand.NewSource(13))
	failed := 0
	for range 40 {
		b := fresh(t, 12+r.Intn(10), 3)
		root := b.built(t, r.Perm(64)[:16]...)
		for range 60 {
			b.Pool().Tidy()
			mark := b.Mark()
			list, _ := b.List(root)
			next, e := b.Trim(root, r.Intn(64), r.Intn(64), r.Intn(64))
			if e == api.OK && r.Intn(2) == 0 {
				var last int
				if last, e = b.Put(next, r.Intn(64), b.blocks[0]); e == api.OK {
					e = b.Swap(next, last)
					next = last
				}
			}
			if e != api.OK {
				failed++
				b.Undo(mark)
				next = root
				b.wantList(t, root, list...)
			}
			if e != api.OK && e != api.ErrSpace {
				t.Fatal(e)
			}
			root = next
			b.wantCounts(t, root)
			if r.Intn(10) == 0 {
				b.Pool().Commit()
			}
		}
	}
	if failed == 0 {
		t.Error("nothing failed")
	}
}

// TestArgumentsStay: what is handed in isn't changed, spare room included.
func TestArgumentsStay(t *testing.T) {
	b := fresh(t, 60, 3)
	room := slices.Concat(upTo(30), []int{64, -1})
	was := slices.Clone(room)
	for _, count := range []int{0, 1, 7, 30, 31} {
		b.wantUndone(t, func() {
			root := b.built(t, upTo(40)...)
			b.Trim(root, room[:count]...)
		})
		if !slices.Equal(room, was) {
			t.Fatal("what was handed in was changed:", room)
		}
	}
}

// TestSameAgain: what is answered hangs on what was done alone.
func TestSameAgain(t *testing.T) {
	run := func() ([]int, pool.Pool) {
		r := rand.New(rand.NewSource(17))
		b := fresh(t, 60, 3)
		root := b.built(t, upTo(64)...)
		var l []int
		for range 200 {
			next, _, e := b.Cut(root, r.Intn(64))
			if next == root {
				next, e = b.Put(root, r.Intn(64), b.blocks[0])
			}
			if e != api.OK {
				t.Fatal(e)
			}
			b.swap(t, root, next)
			root = next
			l = append(l, root)
		}
		return l, *b.Pool()
	}
	l, v := run()
	for range 3 {
		if k, w := run(); !slices.Equal(k, l) || w != v {
			t.Fatal("another time it was otherwise")
		}
	}
}

// TestTreeIsItsOwn: the trees' calls, and the store's, are the pruner's.
func TestTreeIsItsOwn(t *testing.T) {
	b := fresh(t, 40, 1)
	other := Pruner{Tree: b.Tree}
	root, e := other.Build(b.of(1, 2)...)
	if e != api.OK || other.Pool() != b.Pool() {
		t.Fatal(root, e)
	}
	b.wantList(t, root, b.of(1, 2)...)
	next, e := other.Trim(root, 1)
	if e != api.OK {
		t.Fatal(next, e)
	}
	b.wantCounts(t, next)
}
