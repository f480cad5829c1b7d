package leaf

import (
	"hash/crc32"
	"math"
	"math/bits"
	"math/rand"
	"slices"
	"testing"

	"understudy/api"
)

// sum: the sum by another way, to hold the pages against: the library's CRC-32, mirrored.
func sum(b []byte) []byte {
	turned := make([]byte, len(b))
	for i, c := range b {
		turned[i] = bits.Reverse8(c)
	}
	s := ^bits.Reverse32(crc32.ChecksumIEEE(turned))
	return []byte{byte(s >> 24), byte(s >> 16), byte(s >> 8), byte(s)}
}

// sealed: a page of these bytes, their sum, and zeros.
func sealed(b ...byte) api.Page {
	var p api.Page
	copy(p[copy(p[:], b):], sum(b))
	return p
}

// entries: of keys and pages, by turns.
func entries(l ...int) []api.Entry {
	var x []api.Entry
	for i := 0; i < len(l); i += 2 {
		x = append(x, api.Entry{Key: l[i], Page: l[i+1]})
	}
	return x
}

func data(b api.Block) api.Node { return api.Node{Kind: api.KindData, Block: b} }

func leafOf(l ...int) api.Node { return api.Node{Kind: api.KindLeaf, Entries: entries(l...)} }

func innerOf(l ...int) api.Node { return api.Node{Kind: api.KindInner, Entries: entries(l...)} }

func filled(c byte) api.Block {
	return api.Block(slices.Repeat([]byte{c}, 16))
}

// uneven: a block with no two bytes alike, of which none is 0.
func uneven() api.Block {
	var b api.Block
	for i := range b {
		b[i] = byte(i*37 + 5)
	}
	return b
}

// rising: n entries from a key on.
func rising(from, n int) []api.Entry {
	var l []api.Entry
	for i := range n {
		l = append(l, api.Entry{Key: from + i, Page: (from + i*41) % 240})
	}
	return l
}

// rightOnes: nodes that can be, ordinary ones and edges.
func rightOnes() []api.Node {
	l := []api.Node{data(api.Block{}), data(filled(255)), data(uneven()), data(api.Block{0: 1}), data(api.Block{15: 1}), {Kind: 1, Entries: []api.Entry{}}}
	for _, x := range [][]api.Entry{
		entries(0, 0), entries(0, 239), entries(63, 0), entries(63, 239), entries(0, 239, 63, 7), entries(0, 0, 1, 0),
		entries(3, 100, 7, 100), entries(62, 5, 63, 4), entries(10, 1, 20, 2, 30, 3), rising(0, 6), rising(58, 6), rising(20, 5),
		entries(0, 239, 13, 239, 26, 239, 39, 239, 52, 239, 63, 239), entries(1, 9, 2, 8, 3, 7, 4, 6, 5, 5, 6, 4),
	} {
		l = append(l, api.Node{Kind: 2, Entries: x}, api.Node{Kind: 3, Entries: x})
	}
	return l
}

// wrongOnes: nodes that can't be.
func wrongOnes() []api.Node {
	l := []api.Node{{}}
	some := entries(3, 4)
	for _, kind := range []int{0, 4, 5, -1, 255, 256, 257, 258, 259, -255, -254, 1 << 32, 1<<32 + 2, math.MinInt, math.MaxInt} {
		l = append(l, api.Node{Kind: kind}, api.Node{Kind: kind, Block: uneven()}, api.Node{Kind: kind, Entries: some})
	}
	for _, x := range [][]api.Entry{some, rising(0, 6), rising(0, 7), entries(0, 0), entries(-1, -1), make([]api.Entry, 1), make([]api.Entry, 256)} {
		l = append(l, api.Node{Kind: 1, Entries: x}, api.Node{Kind: 1, Block: uneven(), Entries: x})
	}
	for _, kind := range []int{2, 3} {
		for at := range 16 {
			var b api.Block
			b[at] = 1
			l = append(l, api.Node{Kind: kind, Block: b, Entries: some})
		}
		l = append(l, api.Node{Kind: kind, Block: filled(255), Entries: rising(0, 6)}, api.Node{Kind: kind, Block: uneven()})
		for _, x := range wrongEntries() {
			l = append(l, api.Node{Kind: kind, Entries: x})
		}
	}
	return l
}

func wrongEntries() [][]api.Entry {
	l := [][]api.Entry{
		nil, {}, rising(0, 7), rising(57, 7), rising(0, 8), rising(0, 64), make([]api.Entry, 7), make([]api.Entry, 256), make([]api.Entry, 257),
		entries(2, 1, 2, 1), entries(2, 1, 2, 5), entries(0, 1, 0, 2), entries(63, 1, 63, 2), entries(3, 1, 2, 1), entries(63, 1, 0, 1),
		entries(1, 1, 2, 2, 2, 3), entries(1, 1, 3, 2, 2, 3), entries(0, 0, 1, 0, 2, 0, 3, 0, 4, 0, 4, 0), entries(0, 0, 1, 0, 2, 0, 3, 0, 5, 0, 4, 0), entries(9, 0, 1, 0, 2, 0, 3, 0, 4, 0, 5, 0),
	}
	for _, bad := range []int{-1, 64, 65, 128, 255, 256, 259, -256, 1 << 32, 1<<32 + 3, math.MinInt, math.MaxInt} {
		l = append(l, entries(bad, 1), entries(bad, 1, 5, 1), entries(5, 1, bad, 1), entries(5, 1, bad, 1, 7, 1))
	}
	for _, bad := range []int{-1, 240, 241, 255, 256, 265, -256, 1 << 32, 1<<32 + 3, math.MinInt, math.MaxInt} {
		l = append(l, entries(1, bad), entries(1, bad, 5, 1), entries(1, 1, 5, bad), entries(1, 1, 5, bad, 7, 1), entries(1, 1, 2, 1, 3, 1, 4, 1, 5, 1, 6, bad))
	}
	return l
}

// made: the page that the document tells, byte by byte.
func made(n api.Node) api.Page {
	b := []byte{byte(n.Kind)}
	if n.Kind == 1 {
		return sealed(append(b, n.Block[:]...)...)
	}
	b = append(b, byte(len(n.Entries)))
	for _, x := range n.Entries {
		b = append(b, byte(x.Key), byte(x.Page))
	}
	return sealed(b...)
}

func alike(a, b api.Node) bool {
	return a.Kind == b.Kind && a.Block == b.Block && slices.Equal(a.Entries, b.Entries)
}

func wantPage(t *testing.T, n api.Node, want api.Page) {
	t.Helper()
	if p, e := Page(n); p != want || e != api.OK {
		t.Errorf("Page of %v: %v, %d, not %v", n, p, e, want)
	}
}

func wantOpen(t *testing.T, p api.Page, want api.Node) {
	t.Helper()
	if n, e := Open(p); !alike(n, want) || e != api.OK {
		t.Errorf("Open of %v: %v, %d, not %v", p, n, e, want)
	}
}

func wantNone(t *testing.T, p api.Page) {
	t.Helper()
	if n, e := Open(p); !alike(n, api.Node{}) || e != api.ErrNode {
		t.Errorf("Open of %v: %v, %d, not ErrNode", p, n, e)
	}
}

func wantAt(t *testing.T, l []api.Entry, key, want int) {
	t.Helper()
	if i := At(l, key); i != want {
		t.Errorf("At of %d in %v: %d, not %d", key, l, i, want)
	}
}

func wantChildren(t *testing.T, n api.Node, want ...int) {
	t.Helper()
	if l := Children(n); !slices.Equal(l, want) {
		t.Errorf("Children of %v: %v, not %v", n, l, want)
	}
}

func TestLimits(t *testing.T) {
	if api.BlockSize != 16 || api.MaxBlocks != 64 || api.MaxEntries != 6 || api.MaxPool != 240 || api.PageSize != 256 {
		t.Error(api.BlockSize, api.MaxBlocks, api.MaxEntries, api.MaxPool, api.PageSize)
	}
	if api.KindData != 1 || api.KindLeaf != 2 || api.KindInner != 3 || api.None != -1 || api.ErrNode != 81 {
		t.Error(api.KindData, api.KindLeaf, api.KindInner, api.None, api.ErrNode)
	}
}

func TestExample(t *testing.T) {
	l := entries(3, 1, 7, 2)
	wantAt(t, l, 5, 0)
	wantAt(t, l, 2, -1)
}

func TestRight(t *testing.T) {
	for _, n := range rightOnes() {
		if !Right(n) {
			t.Errorf("%v isn't RIGHT", n)
		}
	}
	for _, n := range wrongOnes() {
		if Right(n) {
			t.Errorf("%v is RIGHT", n)
		}
	}
}

func TestRightEachKeyAndPage(t *testing.T) {
	for kind := 2; kind <= 3; kind++ {
		for x := -300; x <= 600; x++ {
			n := api.Node{Kind: kind, Entries: entries(x, 1)}
			if Right(n) != (x >= 0 && x <= 63) {
				t.Errorf("Right of the key %d: %t", x, Right(n))
			}
			n = api.Node{Kind: kind, Entries: entries(1, x)}
			if Right(n) != (x >= 0 && x <= 239) {
				t.Errorf("Right of the page %d: %t", x, Right(n))
			}
			n = api.Node{Kind: kind, Entries: entries(20, 1, x, 1)}
			if Right(n) != (x > 20 && x <= 63) {
				t.Errorf("Right of the key %d behind 20: %t", x, Right(n))
			}
		}
		for count := range 70 {
			n := api.Node{Kind: kind, Entries: rising(0, count)}
			if Right(n) != (count >= 1 && count <= 6) {
				t.Errorf("Right of %d entries: %t", count, Right(n))
			}
		}
	}
	for kind := -300; kind <= 600; kind++ {
		if n := (api.Node{Kind: kind}); Right(n) != (kind == 1) {
			t.Errorf("Right of the kind %d without entries: %t", kind, Right(n))
		}
		if n := (api.Node{Kind: kind, Entries: entries(1, 2)}); Right(n) != (kind == 2 || kind == 3) {
			t.Errorf("Right of the kind %d with an entry: %t", kind, Right(n))
		}
	}
}

func TestSame(t *testing.T) {
	all := append(rightOnes(), wrongOnes()...)
	for i, a := range all {
		for k, b := range all {
			b.Entries = slices.Clone(b.Entries)
			if got, want := Same(a, b), alike(a, b); got != want || i == k && !got {
				t.Errorf("Same of %v and %v: %t", a, b, got)
			}
		}
	}
}

func TestSameDiffers(t *testing.T) {
	mixed := func() api.Node {
		return api.Node{Kind: 2, Block: uneven(), Entries: entries(1, 10, 2, 20, 3, 30)}
	}
	want := func(b api.Node, same bool) {
		t.Helper()
		if Same(mixed(), b) != same || Same(b, mixed()) != same {
			t.Errorf("Same of %v and %v isn't %t", mixed(), b, same)
		}
	}
	want(mixed(), true)
	for _, kind := range []int{0, 1, 3, 4, -2, 258, math.MinInt} {
		b := mixed()
		b.Kind = kind
		want(b, false)
	}
	for at := range 16 {
		b := mixed()
		b.Block[at] ^= 1
		want(b, false)
	}
	for at := range 3 {
		b := mixed()
		b.Entries[at].Key += 256
		want(b, false)
		b = mixed()
		b.Entries[at].Page -= 256
		want(b, false)
	}
	b := mixed()
	b.Entries = b.Entries[:2]
	want(b, false)
	b.Entries = nil
	want(b, false)
	b = mixed()
	b.Entries = append(b.Entries, api.Entry{})
	want(b, false)
	b = mixed()
	slices.Reverse(b.Entries)
	want(b, false)
}

func TestSameNilAndEmpty(t *testing.T) {
	for kind := -1; kind < 5; kind++ {
		a := api.Node{Kind: kind, Block: uneven()}
		b := api.Node{Kind: kind, Block: uneven(), Entries: make([]api.Entry, 0, 3)}
		if !Same(a, b) || !Same(b, a) || !Same(b, b) {
			t.Errorf("no Entries and nil differ, of the kind %d", kind)
		}
	}
}

func TestPageByteByByte(t *testing.T) {
	u := uneven()
	for _, c := range []struct {
		node    api.Node
		content []byte
	}{
		{data(api.Block{1, 15: 9}), []byte{1, 1, 0, 0, 0, 0, 0, 0, 0, 0, 0, 0, 0, 0, 0, 0, 9}},
		{data(u), append([]byte{1}, u[:]...)},
		{data(api.Block{}), make([]byte, 17)},
		{leafOf(5, 200), []byte{2, 1, 5, 200}},
		{leafOf(3, 1, 7, 0), []byte{2, 2, 3, 1, 7, 0}},
		{innerOf(0, 239, 63, 7), []byte{3, 2, 0, 239, 63, 7}},
		{innerOf(1, 9, 2, 8, 3, 7, 4, 6, 5, 5, 6, 4), []byte{3, 6, 1, 9, 2, 8, 3, 7, 4, 6, 5, 5, 6, 4}},
	} {
		c.content[0] = byte(c.node.Kind)
		p, e := Page(c.node)
		if e != api.OK {
			t.Errorf("Page of %v: %d", c.node, e)
		}
		want := append(slices.Clone(c.content), sum(c.content)...)
		for i := range 256 {
			n := byte(0)
			if i < len(want) {
				n = want[i]
			}
			if p[i] != n {
				t.Errorf("Page of %v: byte %d is %d, not %d", c.node, i, p[i], n)
			}
		}
	}
}

// TestPageKnown: sums of a bit by bit division, worked out apart from the program.
func TestPageKnown(t *testing.T) {
	for _, c := range []struct {
		node api.Node
		at   int
		sum  [4]byte
	}{
		{data(api.Block{}), 17, [4]byte{0x55, 0xa3, 0x39, 0x31}},
		{data(filled(255)), 17, [4]byte{0xa7, 0x12, 0x29, 0xfa}},
		{data(api.Block{0: 1, 15: 9}), 17, [4]byte{0x58, 0xdd, 0x76, 0x04}},
		{leafOf(5, 200), 4, [4]byte{0x96, 0x79, 0xc4, 0x71}},
		{innerOf(0, 239, 63, 7), 6, [4]byte{0xbc, 0x8c, 0x75, 0xf5}},
		{leafOf(1, 9, 2, 8, 3, 7, 4, 6, 5, 5, 6, 4), 14, [4]byte{0xc5, 0x37, 0x3d, 0xe3}},
	} {
		p, _ := Page(c.node)
		if [4]byte(p[c.at:c.at+4]) != c.sum || p[c.at+4] != 0 {
			t.Errorf("Page of %v has %x at %d, not %x and zeros", c.node, p[c.at:c.at+5], c.at, c.sum)
		}
	}
}

func TestPageAndOpen(t *testing.T) {
	for _, n := range rightOnes() {
		wantPage(t, n, made(n))
		wantOpen(t, made(n), n)
	}
	for key := range 64 {
		for page := range 240 {
			for _, n := range []api.Node{leafOf(key, page), innerOf(key, page)} {
				if p, e := Page(n); p != made(n) || e != api.OK {
					t.Fatalf("Page of %v: %v, %d", n, p, e)
				}
				if x, e := Open(made(n)); !alike(x, n) || e != api.OK {
					t.Fatalf("Open of the Page of %v: %v, %d", n, x, e)
				}
			}
		}
	}
	for at := range 16 {
		for c := range 256 {
			var b api.Block
			b[at] = byte(c)
			wantPage(t, data(b), made(data(b)))
			wantOpen(t, made(data(b)), data(b))
		}
	}
}

func TestPageOfWrongNodes(t *testing.T) {
	for _, n := range wrongOnes() {
		if p, e := Page(n); p != (api.Page{}) || e != api.ErrNode {
			t.Errorf("Page of %v: %v, %d, not zeros and ErrNode", n, p, e)
		}
	}
}

func TestOpenNoEntriesOfData(t *testing.T) {
	n, e := Open(made(data(uneven())))
	if len(n.Entries) != 0 || e != api.OK || n.Block != uneven() {
		t.Error(n, e)
	}
	n, e = Open(made(innerOf(1, 2)))
	if n.Block != (api.Block{}) || e != api.OK {
		t.Error(n, e)
	}
}

func TestOpenTurned(t *testing.T) {
	for _, n := range rightOnes() {
		whole := made(n)
		for i := range 256 {
			for mask := 1; mask < 256; mask++ {
				p := whole
				p[i] ^= byte(mask)
				if x, e := Open(p); !alike(x, api.Node{}) || e != api.ErrNode {
					t.Fatalf("the Page of %v, byte %d turned by %d: %v, %d", n, i, mask, x, e)
				}
			}
		}
		wantOpen(t, whole, n)
	}
}

func TestOpenBehindTheSeal(t *testing.T) {
	for _, n := range rightOnes() {
		end := 21
		if n.Kind != 1 {
			end = 2 + 2*len(n.Entries) + 4
		}
		for at := end; at < 256; at++ {
			for _, c := range []byte{1, 128, 255} {
				p := made(n)
				p[at] = c
				wantNone(t, p)
			}
		}
		// The whole page sealed, not the node alone.
		p := made(n)
		clear(p[end-4:])
		copy(p[252:], sum(p[:252]))
		wantNone(t, p)
	}
}

func TestOpenWrongPages(t *testing.T) {
	for c := range 256 {
		wantNone(t, api.Page(slices.Repeat([]byte{byte(c)}, 256)))
	}
	wantNone(t, sealed())
	for c := range 256 {
		if c == 1 {
			continue
		}
		// Kinds that there aren't, and such without entries.
		wantNone(t, sealed(byte(c)))
		wantNone(t, sealed(byte(c), 0))
		wantNone(t, sealed(append([]byte{byte(c)}, make([]byte, 16)...)...))
		if c != 2 && c != 3 {
			wantNone(t, sealed(byte(c), 1, 5, 6))
		}
	}
	for _, n := range rightOnes() {
		p := made(n)
		end := 17
		if n.Kind != 1 {
			end = 2 + 2*len(n.Entries)
		}
		// A sum its lowest byte first, turned at its end, of none, or missing.
		x := p
		slices.Reverse(x[end : end+4])
		wantNone(t, x)
		x = p
		for i := end; i < end+4; i++ {
			x[i] ^= 255
		}
		wantNone(t, x)
		x = p
		clear(x[end:])
		wantNone(t, x)
	}
}

func TestOpenSealedButNotRight(t *testing.T) {
	for kind := byte(2); kind <= 3; kind++ {
		for c := range 256 {
			if c > 63 {
				wantNone(t, sealed(kind, 1, byte(c), 5))
				wantNone(t, sealed(kind, 2, 1, 5, byte(c), 5))
			}
			if c > 239 {
				wantNone(t, sealed(kind, 1, 5, byte(c)))
				wantNone(t, sealed(kind, 2, 1, 5, 2, byte(c)))
			}
		}
		wantNone(t, sealed(kind, 2, 4, 5, 4, 5))
		wantNone(t, sealed(kind, 2, 4, 5, 4, 6))
		wantNone(t, sealed(kind, 2, 4, 5, 3, 5))
		wantNone(t, sealed(kind, 3, 1, 5, 9, 5, 9, 5))
		for _, count := range []int{0, 7, 8, 64, 120} {
			b := []byte{kind, byte(count)}
			for i := range count {
				b = append(b, byte(i), byte(i))
			}
			wantNone(t, sealed(b...))
		}
		// More entries than a page has room for.
		for count := 120; count < 256; count++ {
			wantNone(t, sealed(kind, byte(count), 1, 2))
		}
	}
}

// TestOpenMiscounted: fewer or more entries are told than are there, whatever the seal is of.
func TestOpenMiscounted(t *testing.T) {
	for kind := byte(2); kind <= 3; kind++ {
		for count := 1; count <= 6; count++ {
			for tells := range 256 {
				if tells == count {
					continue
				}
				// Key 63 stands last: no bytes of a sum are an entry behind it.
				b := []byte{kind, byte(tells)}
				for i := range count {
					b = append(b, byte(64-count+i), byte(20+i))
				}
				wantNone(t, sealed(b...))
				if tells > 0 && tells < count {
					// The seal is of those that are told, and the others stand behind it.
					p := sealed(b[:2+2*tells]...)
					copy(p[2+2*tells+4:], b[2+2*tells:])
					wantNone(t, p)
				}
				p := made(api.Node{Kind: int(kind), Entries: rising(10, count)})
				p[1] = byte(tells)
				wantNone(t, p)
			}
		}
	}
	// A block that is longer, or that has its length ahead of it.
	u := uneven()
	wantNone(t, sealed(append(append([]byte{1}, u[:]...), 7)...))
	wantNone(t, sealed(append([]byte{1, 16}, u[:]...)...))
}

// TestOpenSumsAreBytes: since a sum of bytes and their sum is 0, a page of fewer bytes, sealed, may be the Page of a node that has bytes of that sum for its own; it is that node's then.
func TestOpenSumsAreBytes(t *testing.T) {
	for _, c := range []struct {
		content []byte
		node    api.Node
	}{
		{[]byte{2, 2, 10, 20}, leafOf(10, 20, 13, 0)},
		{[]byte{2, 3, 10, 20, 11, 21}, leafOf(10, 20, 11, 21, 43, 82)},
		{[]byte{3, 3, 10, 20, 11, 21}, innerOf(10, 20, 11, 21, 48, 122)},
		{[]byte{2, 3, 0, 24}, leafOf(0, 24, 19, 110, 54, 227)},
		{[]byte{1}, data(api.Block{74, 201, 162, 3})},
		{[]byte{1, 1, 5, 6}, data(api.Block{1, 5, 6, 151, 10, 70, 140})},
	} {
		wantPage(t, c.node, sealed(c.content...))
		wantOpen(t, sealed(c.content...), c.node)
	}
	// Bytes of a sum that can't be an entry: the first one is 209, which is no key; 57 and 253, which is no page.
	wantNone(t, sealed(3, 2, 10, 20))
	wantNone(t, sealed(2, 2, 0, 19))
}

// TestOpenIsWhatPageMakes: of any page, Open answers a node whose Page it is, or none.
func TestOpenIsWhatPageMakes(t *testing.T) {
	r := rand.New(rand.NewSource(8))
	opened := 0
	for range 50000 {
		b := []byte{byte(r.Intn(5)), byte(r.Intn(9))}
		for range r.Intn(18) {
			b = append(b, byte(r.Intn(70)))
		}
		if b[0] > 1 {
			slices.Sort(b[2:])
			b[1] = byte(len(b)/2 - 1)
		}
		p := sealed(b...)
		n, e := Open(p)
		if e != api.OK {
			if e != api.ErrNode || !alike(n, api.Node{}) {
				t.Fatal(p, n, e)
			}
			continue
		}
		opened++
		if x, e := Page(n); !Right(n) || x != p || e != api.OK {
			t.Fatal(p, n, x, e)
		}
	}
	if opened < 1000 {
		t.Error("few pages were nodes':", opened)
	}
}

func TestAt(t *testing.T) {
	wantAt(t, nil, 5, -1)
	wantAt(t, []api.Entry{}, 5, -1)
	lists := [][]api.Entry{
		nil, {}, entries(0, 1), entries(63, 1), entries(5, 1), entries(0, 1, 63, 2), entries(3, 1, 7, 2), entries(2, 9, 5, 9, 9, 9),
		rising(0, 6), rising(58, 6), rising(0, 64), rising(7, 300), entries(0, 0, 10, 0, 20, 0, 30, 0, 40, 0, 50, 0),
		entries(-5, 1, 0, 1, 5, 1), entries(math.MinInt, 1), entries(math.MaxInt, 1), entries(math.MinInt, 1, math.MaxInt, 2),
		entries(math.MinInt, 1, -1, 1, 0, 1, 1, 1, math.MaxInt, 2),
	}
	for _, l := range lists {
		keys := []int{math.MinInt, math.MinInt + 1, math.MaxInt - 1, math.MaxInt}
		for key := -10; key < 330; key++ {
			keys = append(keys, key)
		}
		for _, key := range keys {
			want := -1
			for i, x := range l {
				if x.Key <= key {
					want = i
				}
			}
			wantAt(t, l, key, want)
		}
	}
}

func TestAtEdges(t *testing.T) {
	l := entries(2, 50, 5, 40, 9, 30)
	for _, c := range [][2]int{
		{math.MinInt, -1}, {-1, -1}, {0, -1}, {1, -1}, {2, 0}, {3, 0}, {4, 0}, {5, 1}, {6, 1}, {8, 1}, {9, 2}, {10, 2}, {63, 2}, {64, 2}, {math.MaxInt, 2},
	} {
		wantAt(t, l, c[0], c[1])
	}
	wantAt(t, nil, math.MinInt, -1)
	wantAt(t, nil, math.MaxInt, -1)
}

func TestAtEndsWhateverTheKeys(t *testing.T) {
	r := rand.New(rand.NewSource(8))
	for range 2000 {
		l := make([]api.Entry, r.Intn(9))
		for i := range l {
			l[i].Key = r.Intn(12) - 4
		}
		if i := At(l, r.Intn(12)-4); i < -1 || i >= len(l) {
			t.Fatal(l, i)
		}
	}
	At(make([]api.Entry, 100000), -1)
	At(slices.Repeat(entries(5, 1, 3, 1), 50000), 2)
}

func TestChildren(t *testing.T) {
	wantChildren(t, data(uneven()))
	wantChildren(t, api.Node{})
	wantChildren(t, leafOf(5, 200), 200)
	wantChildren(t, innerOf(0, 239, 63, 7), 239, 7)
	wantChildren(t, leafOf(1, 9, 2, 9, 3, 7, 4, 0, 5, 5, 6, 9), 9, 9, 7, 0, 5, 9)
	for _, n := range append(rightOnes(), wrongOnes()...) {
		var want []int
		for _, x := range n.Entries {
			want = append(want, x.Page)
		}
		wantChildren(t, n, want...)
	}
	// Of whatever kind, of whatever entries, as many as there are.
	for _, kind := range []int{0, 1, 2, 3, 4, -1, 257, math.MinInt, math.MaxInt} {
		wantChildren(t, api.Node{Kind: kind})
		wantChildren(t, api.Node{Kind: kind, Entries: []api.Entry{}})
		n := api.Node{Kind: kind, Block: uneven(), Entries: entries(9, -1, 9, 240, -3, 265, 0, math.MinInt, 1, math.MaxInt, 7, 7, 8, 7, 9, 7)}
		wantChildren(t, n, -1, 240, 265, math.MinInt, math.MaxInt, 7, 7, 7)
	}
	if l := Children(api.Node{Kind: 3, Entries: make([]api.Entry, 100000)}); len(l) != 100000 {
		t.Error(len(l))
	}
}

// TestArgumentsStay: nothing that is handed in is changed, spare room included.
func TestArgumentsStay(t *testing.T) {
	room := entries(1, 10, 2, 20, 3, 30, 77, 88, 99, 111)
	was := slices.Clone(room)
	for kind := range 5 {
		for count := range 4 {
			n := api.Node{Kind: kind, Entries: room[:count]}
			Right(n)
			Same(n, n)
			Page(n)
			At(n.Entries, 2)
			if l := Children(n); cap(l) > 0 {
				l = l[:cap(l)]
				clear(l)
			}
		}
	}
	if !slices.Equal(room, was) {
		t.Error("an argument was changed:", room)
	}
}

// TestAnswersAreNew: what was answered may be written over, and what was handed in, too.
func TestAnswersAreNew(t *testing.T) {
	p := made(innerOf(1, 10, 2, 20))
	a, _ := Open(p)
	b, _ := Open(p)
	spoil := a.Entries[:cap(a.Entries)]
	for i := range spoil {
		spoil[i] = api.Entry{Key: -7, Page: -7}
	}
	if !alike(b, innerOf(1, 10, 2, 20)) || p != made(innerOf(1, 10, 2, 20)) {
		t.Error("two answers share their memory:", b)
	}
	wantOpen(t, p, innerOf(1, 10, 2, 20))

	n := leafOf(1, 10, 2, 20)
	x, y := Children(n), Children(n)
	x[0], n.Entries[1].Page = 99, 77
	if !slices.Equal(y, []int{10, 20}) || !slices.Equal(x, []int{99, 20}) || n.Entries[0].Page != 10 {
		t.Error("Children share their memory:", x, y, n)
	}

	n = leafOf(1, 10)
	p, _ = Page(n)
	n.Entries[0].Key = 2
	if p != made(leafOf(1, 10)) {
		t.Error("a page hangs on its node")
	}
}
