package root

import (
	"bytes"
	"hash/crc32"
	"math"
	"math/bits"
	"math/rand"
	"slices"
	"testing"

	"understudy/api"
	"understudy/disk"
)

// lastTop: 2 to the power of 64 less 4.
const lastTop = uint64(1<<64 - 4)

// sum: the sum by another way, to hold the pages against: the library's CRC-32, mirrored.
func sum(b []byte) []byte {
	turned := make([]byte, len(b))
	for i, c := range b {
		turned[i] = bits.Reverse8(c)
	}
	s := ^bits.Reverse32(crc32.ChecksumIEEE(turned))
	return []byte{byte(s >> 24), byte(s >> 16), byte(s >> 8), byte(s)}
}

// stream: a content's, told byte by byte.
func stream(content []byte) []byte {
	b := append([]byte{byte(len(content)), byte(len(content) >> 8)}, content...)
	b = append(b, sum(b)...)
	return append(b, make([]byte, 256)...)[:192]
}

// laid: a page of these 192 bytes, and of a generation for each sector.
func laid(gens [8]uint64, stream []byte) api.Page {
	var p api.Page
	for i := range p {
		if i%32 < 8 {
			p[i] = byte(gens[i/32] >> (8 * (i % 32)))
		} else {
			p[i] = stream[i/32*24+i%32-8]
		}
	}
	return p
}

func each(gen uint64) [8]uint64 {
	return [8]uint64{gen, gen, gen, gen, gen, gen, gen, gen}
}

// made: the page that the document calls a ROOT.
func made(gen uint64, content string) api.Page {
	return laid(each(gen), stream([]byte(content)))
}

// holding: a disk whose pages 0 and 1 are these.
func holding(even, odd api.Page) *disk.Disk {
	d := disk.New(4)
	d.Write(0, even)
	d.Write(1, odd)
	d.Sync()
	return d
}

// text: so many bytes, no two neighbours alike, none 0.
func text(n int) string {
	b := make([]byte, n)
	for i := range b {
		b[i] = byte(i%251 + 1)
	}
	return string(b)
}

func wantRead(t *testing.T, d *disk.Disk, content string, gen uint64, want api.Errno) {
	t.Helper()
	if b, g, e := Read(d); string(b) != content || g != gen || e != want {
		t.Errorf("Read: %q, %d, %d, not %q, %d, %d", b, g, e, content, gen, want)
	}
}

func wantNone(t *testing.T, d *disk.Disk) {
	t.Helper()
	wantRead(t, d, "", 0, api.ErrRoot)
}

func wantNext(t *testing.T, d *disk.Disk, gen uint64, want api.Errno) {
	t.Helper()
	if g, e := Next(d); g != gen || e != want {
		t.Errorf("Next: %d, %d, not %d, %d", g, e, gen, want)
	}
}

func wantWrite(t *testing.T, d *disk.Disk, content string, gen uint64, want api.Errno) {
	t.Helper()
	if g, e := Write(d, []byte(content)); g != gen || e != want {
		t.Errorf("Write: %d, %d, not %d, %d", g, e, gen, want)
	}
}

func wantPage(t *testing.T, d *disk.Disk, i int, want api.Page) {
	t.Helper()
	if p, e := d.Stable(i); p != want || e != api.OK {
		t.Errorf("page %d: %v, %d, not %v", i, p, e, want)
	}
}

func wantPending(t *testing.T, d *disk.Disk, want ...int) {
	t.Helper()
	if l := d.Pending(); !slices.Equal(l, want) {
		t.Errorf("Pending: %v, not %v", l, want)
	}
}

func TestLimits(t *testing.T) {
	if api.MaxRoot != 186 || api.Slots != 2 || api.ErrRoot != 51 {
		t.Error(api.MaxRoot, api.Slots, api.ErrRoot)
	}
}

func TestExample(t *testing.T) {
	d := disk.New(4)
	wantNone(t, d)
	wantNext(t, d, 1, api.OK)
	wantWrite(t, d, "ab", 1, api.OK)
	wantRead(t, d, "ab", 1, api.OK)
	var want api.Page
	for sector := range 8 {
		want[sector*32] = 1
	}
	copy(want[8:], []byte{2, 0, 'a', 'b', 0x6d, 0xc5, 0x93, 0xed})
	wantPage(t, d, 1, want)
	for _, i := range []int{0, 2, 3} {
		wantPage(t, d, i, api.Page{})
	}
}

func TestWritesOneBehindTheOther(t *testing.T) {
	d := disk.New(2)
	for k := range 600 {
		gen, content := uint64(k+1), text(k*7%187)
		old, _ := d.Stable(k % 2)
		wantNext(t, d, gen, api.OK)
		wantWrite(t, d, content, gen, api.OK)
		wantRead(t, d, content, gen, api.OK)
		wantPage(t, d, (k+1)%2, made(gen, content))
		wantPage(t, d, k%2, old)
		wantPending(t, d)
		d.Crash()
		wantRead(t, d, content, gen, api.OK)
	}
}

func TestLengths(t *testing.T) {
	for n := range 187 {
		d := disk.New(2)
		for _, content := range []string{text(n), string(make([]byte, n)), string(bytes.Repeat([]byte{255}, n))} {
			gen, _ := Next(d)
			wantWrite(t, d, content, gen, api.OK)
			wantRead(t, d, content, gen, api.OK)
			wantPage(t, d, int(gen%2), made(gen, content))
		}
	}
	for _, n := range []int{187, 188, 190, 192, 255, 256, 65535, 65536, 65536 + 2, 1 << 20} {
		d := disk.New(2)
		wantWrite(t, d, text(n), 0, api.ErrRoot)
		wantPage(t, d, 1, api.Page{})
		wantNone(t, d)
		wantWrite(t, d, "a", 1, api.OK)
		wantWrite(t, d, text(n), 0, api.ErrRoot)
		wantRead(t, d, "a", 1, api.OK)
		wantNext(t, d, 2, api.OK)
	}
}

func TestNilIsEmpty(t *testing.T) {
	d := disk.New(2)
	for k, content := range [][]byte{nil, {}} {
		if gen, e := Write(d, content); gen != uint64(k+1) || e != api.OK {
			t.Error(gen, e)
		}
		wantRead(t, d, "", uint64(k+1), api.OK)
	}
}

func TestFewPages(t *testing.T) {
	for _, n := range []int{-1, 0, 1} {
		d := disk.New(n)
		wantRead(t, d, "", 0, api.ErrPage)
		wantNext(t, d, 0, api.ErrPage)
		wantWrite(t, d, "a", 0, api.ErrPage)
		wantWrite(t, d, "", 0, api.ErrPage)
		wantWrite(t, d, text(187), 0, api.ErrRoot)
		wantPending(t, d)
	}
	for _, n := range []int{2, 3, api.MaxPages} {
		d := disk.New(n)
		wantWrite(t, d, "a", 1, api.OK)
		wantWrite(t, d, "b", 2, api.OK)
		wantRead(t, d, "b", 2, api.OK)
		for i := 2; i < n; i++ {
			wantPage(t, d, i, api.Page{})
		}
	}
	// The one page that there is is asked first.
	d := disk.New(1)
	d.Spoil(0, true)
	wantRead(t, d, "", 0, api.ErrFault)
	wantNext(t, d, 0, api.ErrFault)
	wantWrite(t, d, "a", 0, api.ErrFault)
	// No root is told of a disk that hasn't the other slot.
	d = disk.New(1)
	d.Write(0, made(2, "a"))
	d.Sync()
	wantRead(t, d, "", 0, api.ErrPage)
	wantNext(t, d, 0, api.ErrPage)
}

func TestBadPage(t *testing.T) {
	for _, start := range []*disk.Disk{
		disk.New(4),
		holding(made(2, "two"), api.Page{}),
		holding(api.Page{}, made(1, "one")),
		holding(made(2, "two"), made(1, "one")),
		holding(made(2, "two"), made(3, "three")),
		holding(made(math.MaxUint64-1, "two"), made(math.MaxUint64, "three")),
	} {
		content, gen, was := Read(start)
		for _, bad := range [][]int{{0}, {1}, {0, 1}, {1, 2}} {
			for _, i := range bad {
				start.Spoil(i, true)
			}
			start.Cut(0)
			wantRead(t, start, "", 0, api.ErrFault)
			wantNext(t, start, 0, api.ErrFault)
			wantWrite(t, start, "new", 0, api.ErrFault)
			wantWrite(t, start, text(187), 0, api.ErrRoot)
			if start.Down() {
				t.Error("a Write that can't know its generation was tried")
			}
			start.Cut(-1)
			wantPending(t, start)
			for _, i := range bad {
				start.Spoil(i, false)
			}
			wantRead(t, start, string(content), gen, was)
		}
		start.Spoil(2, true)
		start.Spoil(3, true)
		wantRead(t, start, string(content), gen, was)
	}
}

func TestDown(t *testing.T) {
	d := disk.New(2)
	wantWrite(t, d, "a", 1, api.OK)
	d.Cut(0)
	d.Sync()
	wantRead(t, d, "a", 1, api.OK)
	wantNext(t, d, 2, api.OK)
	wantWrite(t, d, "b", 0, api.ErrPower)
	wantWrite(t, d, text(187), 0, api.ErrRoot)
	wantPending(t, d)
	d.Spoil(0, true)
	wantWrite(t, d, "b", 0, api.ErrFault)
	d.Spoil(0, false)
	wantRead(t, d, "a", 1, api.OK)
	d.Crash()
	wantWrite(t, d, "b", 2, api.OK)

	d = holding(api.Page{}, made(math.MaxUint64, "last"))
	d.Cut(0)
	d.Sync()
	wantWrite(t, d, "b", 0, api.ErrRoot)

	d = disk.New(1)
	d.Cut(0)
	d.Sync()
	wantWrite(t, d, "b", 0, api.ErrPage)
}

func TestActs(t *testing.T) {
	d := disk.New(4)
	d.Cut(2)
	Read(d)
	Next(d)
	wantWrite(t, d, text(187), 0, api.ErrRoot)
	wantWrite(t, d, "a", 1, api.OK)
	if d.Down() {
		t.Error("down behind two acts")
	}
	wantWrite(t, d, "b", 0, api.ErrPower)
	if !d.Down() {
		t.Error("not down behind a third one")
	}
	wantPending(t, d)
	d.Crash()
	d.Cut(1)
	wantWrite(t, d, "b", 0, api.ErrPower)
	wantPending(t, d, 0)
	// What may be lost still is read all the same, and its generation counts.
	wantRead(t, d, "b", 2, api.OK)
	wantNext(t, d, 3, api.OK)
	wantPage(t, d, 0, api.Page{})
}

func TestWriteSyncsAllThatIsPending(t *testing.T) {
	d := disk.New(4)
	d.Write(3, made(9, "a page of some other thing"))
	wantWrite(t, d, "a", 1, api.OK)
	wantPending(t, d)
	d.Crash()
	wantPage(t, d, 3, made(9, "a page of some other thing"))
	wantRead(t, d, "a", 1, api.OK)

	d.Write(2, made(9, "b"))
	d.Cut(1)
	wantWrite(t, d, "b", 0, api.ErrPower)
	wantPending(t, d, 2, 0)
	d.Crash(0, 255)
	wantRead(t, d, "b", 2, api.OK)
	wantPage(t, d, 2, api.Page{})
}

func TestPendingPagesCount(t *testing.T) {
	d := holding(made(2, "two"), made(3, "three"))
	d.Write(0, made(8, "eight"))
	wantRead(t, d, "eight", 8, api.OK)
	wantNext(t, d, 9, api.OK)
	d.Crash()
	wantRead(t, d, "three", 3, api.OK)
	wantNext(t, d, 4, api.OK)
}

func TestNewestOfSlots(t *testing.T) {
	junk := made(1, "in the wrong slot")
	for _, c := range []struct {
		even, odd api.Page
		content   string
		gen, next uint64
	}{
		{made(2, "two"), api.Page{}, "two", 2, 3},
		{api.Page{}, made(1, "one"), "one", 1, 2},
		{api.Page{}, made(3, "three"), "three", 3, 4},
		{made(2, "two"), made(1, "one"), "two", 2, 3},
		{made(2, "two"), made(3, "three"), "three", 3, 4},
		{made(200, "even"), made(3, "odd"), "even", 200, 201},
		{made(2, "even"), made(301, "odd"), "odd", 301, 302},
		{made(256, "even"), made(255, "odd"), "even", 256, 257},
		{made(1<<56, "even"), made(1<<56-1, "odd"), "even", 1 << 56, 1<<56 + 1},
		{made(2, "even"), made(1<<63+1, "odd"), "odd", 1<<63 + 1, 1<<63 + 2},
		{made(1<<63, "even"), made(1, "odd"), "even", 1 << 63, 1<<63 + 1},
		{made(1<<40, "even"), made(1<<32+1, "odd"), "even", 1 << 40, 1<<40 + 1},
		{made(lastTop, "even"), made(3, "odd"), "even", lastTop, lastTop + 1},
		{made(2, "even"), made(lastTop-1, "odd"), "odd", lastTop - 1, lastTop},
		{junk, made(1, "one"), "one", 1, 2},
		{made(2, ""), made(1, text(186)), "", 2, 3},
		{made(2, ""), made(3, text(186)), text(186), 3, 4},
	} {
		d := holding(c.even, c.odd)
		wantRead(t, d, c.content, c.gen, api.OK)
		wantNext(t, d, c.next, api.OK)
		wantWrite(t, d, "new", c.next, api.OK)
		wantRead(t, d, "new", c.next, api.OK)
		// What counted is there still.
		wantPage(t, d, int(c.gen%2), [2]api.Page{c.even, c.odd}[c.gen%2])
	}
}

func TestWrongSlot(t *testing.T) {
	for _, c := range []struct {
		even, odd api.Page
		next      uint64
	}{
		{made(1, "a"), api.Page{}, 2},
		{made(7, "a"), api.Page{}, 8},
		{api.Page{}, made(2, "a"), 3},
		{made(3, "a"), made(2, "b"), 4},
		{made(7, "a"), made(12, "b"), 13},
		{made(0, "a"), made(0, "b"), 1},
		{made(0, ""), api.Page{}, 1},
	} {
		d := holding(c.even, c.odd)
		wantNone(t, d)
		wantNext(t, d, c.next, api.OK)
		wantWrite(t, d, "new", c.next, api.OK)
		wantRead(t, d, "new", c.next, api.OK)
	}
	// The number in the wrong slot counts, but neither as a root nor for the slot.
	d := holding(made(9, "wrong"), made(5, "right"))
	wantRead(t, d, "right", 5, api.OK)
	wantNext(t, d, 10, api.OK)
	d = holding(made(4, "right"), made(8, "wrong"))
	wantRead(t, d, "right", 4, api.OK)
	wantNext(t, d, 9, api.OK)
	d = holding(made(9, "wrong"), made(4, "wrong"))
	wantNext(t, d, 10, api.OK)
	d = holding(made(10, "right"), made(12, "wrong"))
	wantNext(t, d, 13, api.OK)
	d = holding(made(11, "wrong"), made(5, "right"))
	wantNext(t, d, 12, api.OK)
	wantWrite(t, d, "new", 12, api.OK)
	wantRead(t, d, "new", 12, api.OK)
}

func TestNextIsAboveTheTopOfAllSectors(t *testing.T) {
	for at := range 16 {
		for _, top := range []uint64{1, 2, 5, 6, 255, 256, 257, 1 << 32, 1<<32 + 1, 1<<63 - 1, 1 << 63, lastTop - 1, lastTop} {
			pages := [2]api.Page{}
			gens := [8]uint64{}
			gens[at%8] = top
			pages[at/8] = laid(gens, make([]byte, 192))
			wantNext(t, holding(pages[0], pages[1]), top+1, api.OK)
		}
	}
	// A root stands in one slot, torn sectors in the other one.
	for sector := range 8 {
		for torn := range uint64(40) {
			gens := [8]uint64{}
			gens[sector] = torn
			junk := laid(gens, stream([]byte("torn")))
			d := holding(made(10, "ten"), junk)
			want := max(torn, 10) + 1
			want += 1 - want%2
			wantNext(t, d, want, api.OK)
			wantRead(t, d, "ten", 10, api.OK)

			d = holding(junk, made(11, "eleven"))
			want = max(torn, 11) + 1
			want += want % 2
			wantNext(t, d, want, api.OK)
			wantRead(t, d, "eleven", 11, api.OK)
		}
	}
}

func TestNoMoreGenerations(t *testing.T) {
	for at := range 16 {
		for above := uint64(1); above < 4; above++ {
			for _, content := range []string{"", "two"} {
				gens := [8]uint64{}
				gens[at%8] = lastTop + above
				pages := [2]api.Page{}
				pages[at/8] = laid(gens, make([]byte, 192))
				// A root beside it makes no difference.
				if content != "" {
					other := 1 - at/8
					pages[other] = made(uint64(2+other), content)
				}
				d := holding(pages[0], pages[1])
				before, gen, was := Read(d)
				wantNext(t, d, 0, api.ErrRoot)
				wantWrite(t, d, "new", 0, api.ErrRoot)
				wantPending(t, d)
				wantPage(t, d, 0, pages[0])
				wantPage(t, d, 1, pages[1])
				wantRead(t, d, string(before), gen, was)
				if string(before) != content {
					t.Errorf("Read: %q, not %q", before, content)
				}
			}
		}
	}
	wantNext(t, holding(made(lastTop, "a"), api.Page{}), lastTop+1, api.OK)
	wantNext(t, holding(api.Page{}, made(lastTop+1, "a")), 0, api.ErrRoot)
	wantNext(t, holding(made(lastTop+2, "a"), api.Page{}), 0, api.ErrRoot)
	// The last ones are roots all the same.
	wantRead(t, holding(made(lastTop+2, "a"), made(3, "b")), "a", lastTop+2, api.OK)
	wantRead(t, holding(made(lastTop+2, "a"), made(math.MaxUint64, "b")), "b", math.MaxUint64, api.OK)
	// From the last top on one Write goes, odd or even; behind it none does.
	junk := laid([8]uint64{lastTop}, make([]byte, 192))
	for _, c := range []struct {
		d   *disk.Disk
		gen uint64
	}{
		{holding(junk, api.Page{}), lastTop + 1},
		{holding(api.Page{}, junk), lastTop + 1},
		{holding(made(2, "a"), junk), lastTop + 1},
		{holding(junk, made(3, "a")), lastTop + 2},
	} {
		wantNext(t, c.d, c.gen, api.OK)
		wantWrite(t, c.d, "last", c.gen, api.OK)
		wantRead(t, c.d, "last", c.gen, api.OK)
		wantWrite(t, c.d, "one more", 0, api.ErrRoot)
		wantRead(t, c.d, "last", c.gen, api.OK)
	}
}

func TestTurnedBytes(t *testing.T) {
	for _, content := range []string{"", "ab", text(40), text(186)} {
		for i := range api.PageSize {
			for _, mask := range []byte{1, 2, 0x10, 0x80, 0xff} {
				p := made(4, content)
				p[i] ^= mask
				wantNone(t, holding(p, api.Page{}))
				wantRead(t, holding(p, made(3, "old")), "old", 3, api.OK)
				p = made(5, content)
				p[i] ^= mask
				wantNone(t, holding(api.Page{}, p))
				wantRead(t, holding(made(2, "old"), p), "old", 2, api.OK)
			}
		}
	}
}

func TestGenerationsDiffer(t *testing.T) {
	for mask := 1; mask < 255; mask++ {
		gens := [8]uint64{}
		for sector := range gens {
			gens[sector] = 6 - uint64(mask>>sector&1)*2
		}
		p := laid(gens, stream([]byte("ab")))
		wantNone(t, holding(p, api.Page{}))
		d := holding(p, made(3, "old"))
		wantRead(t, d, "old", 3, api.OK)
		wantNext(t, d, 8, api.OK)
	}
	for sector := range 8 {
		for _, other := range []uint64{0, 5, 7, 6 + 1<<8, 6 + 1<<63} {
			gens := each(6)
			gens[sector] = other
			wantNone(t, holding(laid(gens, stream([]byte("ab"))), api.Page{}))
		}
	}
}

func TestZerosBehindTheStream(t *testing.T) {
	for _, n := range []int{0, 1, 18, 19, 100, 185} {
		content := []byte(text(n))
		for at := n + 6; at < 192; at++ {
			b := stream(content)
			b[at] = 1
			wantNone(t, holding(laid(each(2), b), api.Page{}))
			wantRead(t, holding(laid(each(4), b), made(1, "old")), "old", 1, api.OK)
		}
		wantRead(t, holding(laid(each(2), stream(content)), api.Page{}), text(n), 2, api.OK)
	}
}

func TestWrongStreams(t *testing.T) {
	whole := []byte(text(192))
	for _, n := range []int{187, 188, 189, 190, 191, 192, 255, 256, 65535} {
		b := slices.Clone(whole)
		b[0], b[1] = byte(n), byte(n>>8)
		// What there is of a sum is right, as far as the page goes.
		sealed := append(slices.Clone(b[:min(n+2, 192)]), sum(b[:min(n+2, 192)])...)
		wantNone(t, holding(laid(each(2), sealed[:192]), api.Page{}))
		wantNone(t, holding(laid(each(2), b), api.Page{}))
		copy(b[188:], sum(b[:188]))
		wantNone(t, holding(laid(each(2), b), api.Page{}))
	}
	// A sum its lowest byte first, a length its highest first, a sum without the length.
	b := []byte{2, 0, 'a', 'b', 0xed, 0x93, 0xc5, 0x6d}
	wantNone(t, holding(laid(each(2), append(b, make([]byte, 192)...)), api.Page{}))
	b = []byte{0, 2, 'a', 'b'}
	b = append(b, sum(b)...)
	wantNone(t, holding(laid(each(2), append(b, make([]byte, 192)...)), api.Page{}))
	b = append([]byte{2, 0, 'a', 'b'}, sum([]byte("ab"))...)
	wantNone(t, holding(laid(each(2), append(b, make([]byte, 192)...)), api.Page{}))
	// Zeros behind a seal make another seal: only the length tells which one it is.
	b = []byte{1, 0, 'a', 'b'}
	b = append(b, sum(b)...)
	wantNone(t, holding(laid(each(2), append(b, make([]byte, 192)...)), api.Page{}))
}

// before: disks as Writes, and crashes in them, may leave them, told by what is done to a new one.
func before() []func(d *disk.Disk) {
	write := func(d *disk.Disk, content string) { Write(d, []byte(content)) }
	torn := func(d *disk.Disk, content string, mask byte) {
		d.Cut(1)
		write(d, content)
		d.Crash(mask)
	}
	return []func(d *disk.Disk){
		func(d *disk.Disk) {},
		func(d *disk.Disk) { write(d, "one") },
		func(d *disk.Disk) { write(d, "one"); write(d, text(186)) },
		func(d *disk.Disk) { write(d, ""); write(d, ""); write(d, "") },
		func(d *disk.Disk) { torn(d, "torn", 1) },
		func(d *disk.Disk) { torn(d, "torn", 0xfe) },
		func(d *disk.Disk) { torn(d, "torn", 0x0f); torn(d, "torn", 0xf0); torn(d, "torn", 0x3c) },
		func(d *disk.Disk) { write(d, "one"); torn(d, text(99), 0x7f); torn(d, text(98), 0x81) },
		func(d *disk.Disk) { write(d, "one"); write(d, "two"); torn(d, "three", 0xfd) },
		func(d *disk.Disk) { write(d, "one"); torn(d, "two", 0); torn(d, "three", 255) },
		func(d *disk.Disk) { torn(d, "new", 0x55); write(d, "new"); torn(d, "new", 0xaa) },
	}
}

func TestTheOldOrTheNew(t *testing.T) {
	for k, do := range before() {
		for _, content := range []string{"", "new", text(186)} {
			for cut := range 3 {
				for mask := range 256 {
					d := disk.New(3)
					do(d)
					old, gen, was := Read(d)
					next, _ := Next(d)
					d.Cut(cut)
					if cut < 2 {
						wantWrite(t, d, content, 0, api.ErrPower)
					} else {
						wantWrite(t, d, content, next, api.OK)
					}
					d.Crash(byte(mask))
					if cut == 2 || cut == 1 && mask == 255 {
						wantRead(t, d, content, next, api.OK)
					} else {
						wantRead(t, d, string(old), gen, was)
					}
					if t.Failed() {
						t.Fatalf("disk %d, cut %d, kept %08b", k, cut, mask)
					}
				}
			}
		}
	}
}

func TestNoSectorIsTakenForAnothers(t *testing.T) {
	// The same content, torn once so that these sectors stay, once so that the others do: both halves together are none.
	for mask := range 256 {
		for _, start := range []string{"", "old"} {
			d := disk.New(2)
			if start != "" {
				wantWrite(t, d, start, 1, api.OK)
			}
			old, gen, was := Read(d)
			for _, keep := range []byte{byte(mask), ^byte(mask)} {
				if keep == 255 {
					continue
				}
				d.Cut(1)
				wantWrite(t, d, "the same", 0, api.ErrPower)
				d.Crash(keep)
				wantRead(t, d, string(old), gen, was)
			}
		}
	}
}

// story: Writes, cut off anywhere, crashes that keep any sectors: what is told is the last one that was written whole.
func story(t *testing.T, seed int64) {
	r := rand.New(rand.NewSource(seed))
	d := disk.New(2)
	content, gen, was := "", uint64(0), api.ErrRoot
	kept := uint64(0)
	for range 200 {
		next, e := Next(d)
		if e != api.OK || next <= kept {
			t.Fatal("seed", seed, next, e, kept)
		}
		fresh := text(r.Intn(4) * 62)
		cut := r.Intn(4)
		d.Cut(cut)
		got, e := Write(d, []byte(fresh))
		mask := byte(r.Intn(256))
		if r.Intn(4) == 0 {
			mask = 255
		}
		if cut > 1 != (e == api.OK && got == next) || cut <= 1 && (got != 0 || e != api.ErrPower) {
			t.Fatal("seed", seed, cut, got, e)
		}
		d.Crash(mask)
		if cut > 1 || cut == 1 && mask != 0 {
			kept = next
		}
		if cut > 1 || cut == 1 && mask == 255 {
			content, gen, was = fresh, next, api.OK
		}
		wantRead(t, d, content, gen, was)
		if t.Failed() {
			t.Fatal("seed", seed)
		}
	}
}

func TestStories(t *testing.T) {
	for seed := range int64(50) {
		story(t, seed)
	}
}

// told: what Read tells, and Next, in the document's words: each length is tried for a root.
func told(pages [2]api.Page) (string, uint64, uint64) {
	content, gen, top := "", uint64(0), uint64(0)
	for slot, p := range pages {
		var first uint64
		for i := range api.PageSize {
			if i%32 != 0 {
				continue
			}
			n := uint64(0)
			for k := range 8 {
				n += uint64(p[i+k]) << (8 * k)
			}
			top = max(top, n)
			if i == 0 {
				first = n
			}
		}
		var flat []byte
		for i, c := range p {
			if i%32 >= 8 {
				flat = append(flat, c)
			}
		}
		for n := range 187 {
			c := string(flat[2 : 2+n])
			if first%2 == uint64(slot) && first > gen && p == made(first, c) {
				content, gen = c, first
			}
		}
	}
	next := top + 1
	if gen != 0 && gen%2 == next%2 {
		next++
	}
	return content, gen, next
}

func TestAsTold(t *testing.T) {
	for seed := range int64(3000) {
		r := rand.New(rand.NewSource(seed))
		var pages [2]api.Page
		for slot := range pages {
			switch r.Intn(6) {
			case 0:
				r.Read(pages[slot][:])
				pages[slot][7] &= 0x7f
			case 1:
				pages[slot] = laid([8]uint64{uint64(r.Intn(9)), uint64(r.Intn(9))}, make([]byte, 192))
			default:
				pages[slot] = made(uint64(r.Intn(12)), text(r.Intn(187)))
			}
			if r.Intn(5) == 0 {
				pages[slot][r.Intn(256)] ^= byte(1 << r.Intn(8))
			}
		}
		content, gen, next := told(pages)
		d := holding(pages[0], pages[1])
		if gen == 0 {
			wantNone(t, d)
		} else {
			wantRead(t, d, content, gen, api.OK)
		}
		if next <= lastTop {
			wantNext(t, d, next, api.OK)
			wantWrite(t, d, "new", next, api.OK)
			wantPage(t, d, int(next%2), made(next, "new"))
		}
		if t.Failed() {
			t.Fatal("seed", seed)
		}
	}
}

func TestReadingChangesNothing(t *testing.T) {
	d := holding(made(2, "two"), made(3, "three"))
	d.Write(0, made(4, "four"))
	d.Cut(1)
	for range 5 {
		wantRead(t, d, "four", 4, api.OK)
		wantNext(t, d, 5, api.OK)
		wantPending(t, d, 0)
	}
	if d.Sync() != api.OK || d.Down() {
		t.Error("an act was taken")
	}
	wantPage(t, d, 0, made(4, "four"))
	wantPage(t, d, 1, made(3, "three"))
}

func TestDisksAreApart(t *testing.T) {
	a, b := disk.New(2), disk.New(2)
	wantWrite(t, a, "a", 1, api.OK)
	wantWrite(t, a, "b", 2, api.OK)
	wantNone(t, b)
	wantWrite(t, b, "c", 1, api.OK)
	wantRead(t, a, "b", 2, api.OK)
}

func TestContentIsLeft(t *testing.T) {
	for _, n := range []int{0, 5, 186, 187} {
		room := []byte(text(300))
		d := disk.New(2)
		Write(d, room[:n])
		if string(room) != text(300) {
			t.Error(n, "what was handed in is changed")
		}
		for i := range room {
			room[i] = 77
		}
		if n <= 186 {
			wantRead(t, d, text(n), 1, api.OK)
		}
	}
}

func TestAnswersAreNewMemory(t *testing.T) {
	for _, n := range []int{0, 1, 5, 186} {
		d := disk.New(2)
		wantWrite(t, d, text(n), 1, api.OK)
		a, _, _ := Read(d)
		b, _, _ := Read(d)
		for i := range a[:cap(a)] {
			a[:cap(a)][i] = 77
		}
		if string(b) != text(n) {
			t.Error(n, "two answers share memory")
		}
		wantRead(t, d, text(n), 1, api.OK)
		wantWrite(t, d, "other", 2, api.OK)
		if string(b) != text(n) {
			t.Error(n, "an answer is changed by a Write")
		}
	}
}
