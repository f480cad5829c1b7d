package tally

import (
	"hash/crc32"
	"math"
	"math/bits"
	"math/rand"
	"slices"
	"testing"

	"understudy/api"
	"understudy/disk"
)

// sum: the sum by another way, to hold the pages against: the library's CRC-32, mirrored.
func sum(b []byte) []byte {
	turned := make([]byte, len(b))
	for i, c := range b {
		turned[i] = bits.Reverse8(c)
	}
	s := ^bits.Reverse32(crc32.ChecksumIEEE(turned))
	return []byte{byte(s >> 24), byte(s >> 16), byte(s >> 8), byte(s)}
}

// made: the page that the document tells, byte by byte.
func made(gen uint64, c Counts) api.Page {
	var b []byte
	for k := range 8 {
		b = append(b, byte(gen>>(8*k)))
	}
	for _, n := range c {
		b = append(b, n)
	}
	b = append(b, sum(b)...)
	return api.Page(append(b, 0, 0, 0, 0))
}

// resealed: the page with the sum that its first 248 bytes have.
func resealed(p api.Page) api.Page {
	copy(p[248:], sum(p[:248]))
	return p
}

func full(n byte) Counts {
	var c Counts
	for i := range c {
		c[i] = n
	}
	return c
}

// single: one count isn't 0.
func single(at int, n byte) Counts {
	var c Counts
	c[at] = n
	return c
}

// uneven: no two neighbours alike, some of them 0.
func uneven(seed byte) Counts {
	var c Counts
	for i := range c {
		c[i] = byte(i*37) + seed
	}
	return c
}

// some: counts, ordinary ones and edges.
func some() []Counts {
	l := []Counts{{}, full(1), full(254), full(255), uneven(0), uneven(99), {0: 7, 239: 255}, {3: 1, 4: 2, 200: 9}}
	for _, at := range []int{0, 1, 23, 24, 119, 238, 239} {
		l = append(l, single(at, 1), single(at, 128), single(at, 255))
	}
	return l
}

// generations: the edges, the lowest byte and the highest of each width.
func generations() []uint64 {
	return []uint64{0, 1, 2, 3, 4, 5, 7, 255, 256, 257, 0x0102, 65535, 65536, math.MaxUint32, 1 << 32, 1<<32 + 1, 1 << 56, math.MaxInt64, 1 << 63, 1<<63 + 1, 0x0102030405060708, math.MaxUint64 - 1, math.MaxUint64}
}

func wantOpen(t *testing.T, p api.Page, gen uint64, c Counts, want api.Errno) {
	t.Helper()
	if x, e := Open(p, gen); x != c || e != want {
		t.Errorf("Open for %d: %v, %d, not %v, %d", gen, x, e, c, want)
	}
}

func wantNone(t *testing.T, p api.Page, gen uint64) {
	t.Helper()
	wantOpen(t, p, gen, Counts{}, api.ErrTally)
}

func wantRead(t *testing.T, d *disk.Disk, gen uint64, c Counts, want api.Errno) {
	t.Helper()
	if x, e := Read(d, gen); x != c || e != want {
		t.Errorf("Read of %d: %v, %d, not %v, %d", gen, x, e, c, want)
	}
}

func wantWrite(t *testing.T, d *disk.Disk, gen uint64, c Counts, want api.Errno) {
	t.Helper()
	if e := Write(d, gen, c); e != want {
		t.Errorf("Write of %d: %d, not %d", gen, e, want)
	}
}

func wantStable(t *testing.T, d *disk.Disk, i int, want api.Page) {
	t.Helper()
	if p, e := d.Stable(i); p != want || e != api.OK {
		t.Errorf("page %d: %v, %d, not %v", i, p, e, want)
	}
}

func wantPending(t *testing.T, d *disk.Disk, want ...int) {
	t.Helper()
	if l := d.Pending(); !slices.Equal(l, want) {
		t.Errorf("Pending: %v, not %v", l, want)
	}
}

func TestLimits(t *testing.T) {
	if api.MaxPool != 240 || api.Areas != 2 || api.ErrTally != 61 || len(Counts{}) != 240 {
		t.Error(api.MaxPool, api.Areas, api.ErrTally, len(Counts{}))
	}
}

func TestArea(t *testing.T) {
	for _, gen := range generations() {
		want := 2
		if gen&1 == 1 {
			want = 3
		}
		if at := Area(gen); at != want {
			t.Errorf("Area(%d): %d, not %d", gen, at, want)
		}
	}
	for gen := range uint64(1000) {
		if at := Area(gen); at != []int{2, 3}[gen%2] {
			t.Errorf("Area(%d): %d", gen, at)
		}
	}
}

func TestPageByteByByte(t *testing.T) {
	p := Page(0x0102030405060708, uneven(3))
	for i, want := range []byte{8, 7, 6, 5, 4, 3, 2, 1} {
		if p[i] != want {
			t.Errorf("byte %d: %d, not %d", i, p[i], want)
		}
	}
	for i, want := range uneven(3) {
		if p[8+i] != want {
			t.Errorf("byte %d: %d, not %d", 8+i, p[8+i], want)
		}
	}
	for i, want := range append(sum(p[:248]), 0, 0, 0, 0) {
		if p[248+i] != want {
			t.Errorf("byte %d: %d, not %d", 248+i, p[248+i], want)
		}
	}
}

// TestPageKnown: sums of a bit by bit division, worked out apart from the program.
func TestPageKnown(t *testing.T) {
	for _, c := range []struct {
		gen    uint64
		counts Counts
		sum    [4]byte
	}{
		{0, Counts{}, [4]byte{0xdc, 0x4c, 0x21, 0xa2}},
		{5, Counts{0: 7, 239: 255}, [4]byte{0xa7, 0x8a, 0xac, 0xc3}},
		{math.MaxUint64, full(255), [4]byte{0xd7, 0xc3, 0xf2, 0xb8}},
	} {
		p := Page(c.gen, c.counts)
		if [4]byte(p[248:252]) != c.sum || [4]byte(p[252:]) != [4]byte{} {
			t.Errorf("Page of %d ends with %x, not %x and zeros", c.gen, p[248:], c.sum)
		}
	}
}

func TestPageAndOpen(t *testing.T) {
	for _, gen := range generations() {
		for _, c := range some() {
			p := Page(gen, c)
			if p != made(gen, c) {
				t.Errorf("Page of %d and %v: %v", gen, c, p)
			}
			wantOpen(t, made(gen, c), gen, c, api.OK)
		}
	}
	for at := range 240 {
		for _, n := range []byte{1, 255} {
			p := Page(6, single(at, n))
			if p != made(6, single(at, n)) || p[8+at] != n {
				t.Errorf("Page of a count at %d: %v", at, p)
			}
			wantOpen(t, p, 6, single(at, n), api.OK)
		}
	}
}

func TestOpenForAnotherGeneration(t *testing.T) {
	wantOpen(t, Page(5, uneven(1)), 5, uneven(1), api.OK)
	wantNone(t, Page(5, uneven(1)), 7)
	for _, gen := range generations() {
		for _, c := range []Counts{{}, uneven(1), full(255)} {
			p := Page(gen, c)
			for _, other := range generations() {
				if other != gen {
					wantNone(t, p, other)
				}
			}
			for bit := range 64 {
				wantNone(t, p, gen^1<<bit)
			}
		}
	}
}

func TestTurnedBytes(t *testing.T) {
	for _, c := range []Counts{{}, uneven(1)} {
		whole := Page(5, c)
		for i := range api.PageSize {
			for mask := 1; mask < 256; mask++ {
				p := whole
				p[i] ^= byte(mask)
				if x, e := Open(p, 5); x != (Counts{}) || e != api.ErrTally {
					t.Fatalf("byte %d turned by %d: %v, %d", i, mask, x, e)
				}
			}
			// Nor is it one of the generation that it tells then.
			if i < 8 {
				p := whole
				p[i] ^= 2
				wantNone(t, p, 5^2<<(8*i))
			}
		}
		wantOpen(t, whole, 5, c, api.OK)
	}
}

func TestTurnedBytesSealedAnew(t *testing.T) {
	for i := range 248 {
		p := Page(5, uneven(1))
		p[i] ^= 1
		p = resealed(p)
		if i < 8 {
			wantNone(t, p, 5)
			wantOpen(t, p, 5^1<<(8*i), uneven(1), api.OK)
		} else {
			c := uneven(1)
			c[i-8] ^= 1
			wantOpen(t, p, 5, c, api.OK)
		}
	}
}

func TestZerosBehindTheSeal(t *testing.T) {
	for _, c := range some() {
		for at := 252; at < 256; at++ {
			for _, n := range []byte{1, 128, 255} {
				p := Page(5, c)
				p[at] = n
				wantNone(t, p, 5)
			}
		}
		p := Page(5, c)
		copy(p[252:], []byte{1, 2, 3, 4})
		wantNone(t, p, 5)
	}
}

func TestWrongPages(t *testing.T) {
	c := uneven(1)
	right := made(5, c)
	for _, gen := range generations() {
		wantNone(t, api.Page{}, gen)
		wantNone(t, api.Page(slices.Repeat([]byte{255}, 256)), gen)
		wantNone(t, api.Page(slices.Repeat([]byte{1}, 256)), gen)
	}
	// A sum its lowest byte first, turned at its end, of the counts alone, of the whole page, of none.
	p := right
	slices.Reverse(p[248:252])
	wantNone(t, p, 5)
	p = right
	for i := 248; i < 252; i++ {
		p[i] ^= 255
	}
	wantNone(t, p, 5)
	p = right
	copy(p[248:], sum(c[:]))
	wantNone(t, p, 5)
	p = right
	copy(p[248:252], []byte{0, 0, 0, 0})
	copy(p[252:], sum(p[:252]))
	wantNone(t, p, 5)
	p = right
	copy(p[248:252], []byte{0, 0, 0, 0})
	wantNone(t, p, 5)
	// A generation its highest byte first, or in fewer bytes; counts ahead of the generation.
	p = right
	slices.Reverse(p[:8])
	wantNone(t, resealed(p), 5)
	wantOpen(t, resealed(p), 5<<56, c, api.OK)
	p = api.Page{0: 5}
	copy(p[4:], c[:])
	copy(p[244:], sum(p[:244]))
	wantNone(t, p, 5)
	p = api.Page{240: 5}
	copy(p[:], c[:])
	wantNone(t, resealed(p), 5)
}

func TestArgumentsStay(t *testing.T) {
	c, d := uneven(1), disk.New(4)
	p := Page(5, c)
	x, _ := Open(p, 5)
	x[0]++
	Write(d, 5, c)
	y, _ := Read(d, 5)
	y[0]++
	Used(c)
	if c != uneven(1) || p != made(5, uneven(1)) {
		t.Error("an argument was changed")
	}
	c[0]++
	wantRead(t, d, 5, uneven(1), api.OK)
}

func TestWriteAndRead(t *testing.T) {
	for _, even := range generations() {
		for _, odd := range generations() {
			if even%2 != 0 || odd%2 != 1 {
				continue
			}
			d := disk.New(6)
			wantWrite(t, d, even, uneven(1), api.OK)
			wantPending(t, d, 2)
			wantRead(t, d, odd, Counts{}, api.ErrTally)
			wantWrite(t, d, odd, uneven(2), api.OK)
			wantPending(t, d, 2, 3)
			wantRead(t, d, even, uneven(1), api.OK)
			wantRead(t, d, odd, uneven(2), api.OK)
			d.Sync()
			for i, p := range []api.Page{{}, {}, made(even, uneven(1)), made(odd, uneven(2)), {}, {}} {
				wantStable(t, d, i, p)
			}
			wantRead(t, d, even, uneven(1), api.OK)
			wantRead(t, d, odd, uneven(2), api.OK)
		}
	}
	for _, c := range some() {
		d := disk.New(4)
		wantWrite(t, d, 5, c, api.OK)
		wantRead(t, d, 5, c, api.OK)
		wantRead(t, d, 7, Counts{}, api.ErrTally)
	}
}

func TestAnotherGenerationOfTheSameArea(t *testing.T) {
	d := disk.New(4)
	wantWrite(t, d, 8, uneven(1), api.OK)
	wantWrite(t, d, 9, uneven(2), api.OK)
	d.Sync()
	wantWrite(t, d, 10, uneven(3), api.OK)
	wantRead(t, d, 8, Counts{}, api.ErrTally)
	wantRead(t, d, 9, uneven(2), api.OK)
	wantRead(t, d, 10, uneven(3), api.OK)
	wantStable(t, d, 2, made(8, uneven(1)))
	// The last one that is written is read, be its generation less, or the same.
	wantWrite(t, d, 6, uneven(4), api.OK)
	wantRead(t, d, 10, Counts{}, api.ErrTally)
	wantRead(t, d, 6, uneven(4), api.OK)
	wantWrite(t, d, 6, Counts{}, api.OK)
	wantRead(t, d, 6, Counts{}, api.OK)
	wantPending(t, d, 2, 2, 2)
	d.Sync()
	wantStable(t, d, 2, made(6, Counts{}))
	wantStable(t, d, 3, made(9, uneven(2)))
}

func TestReadOfNothing(t *testing.T) {
	d := disk.New(4)
	for _, gen := range generations() {
		wantRead(t, d, gen, Counts{}, api.ErrTally)
	}
	// The other area's page isn't asked, nor any other one.
	for _, gen := range []uint64{4, 5} {
		d = disk.New(8)
		for i := range 8 {
			if i != Area(gen) {
				d.Write(i, made(gen, uneven(1)))
			}
		}
		wantRead(t, d, gen, Counts{}, api.ErrTally)
		d.Write(Area(gen), made(gen, uneven(2)))
		wantRead(t, d, gen, uneven(2), api.OK)
	}
}

func TestFewPages(t *testing.T) {
	for _, c := range []struct {
		pages     int
		even, odd api.Errno
	}{
		{-1, api.ErrPage, api.ErrPage},
		{0, api.ErrPage, api.ErrPage},
		{1, api.ErrPage, api.ErrPage},
		{2, api.ErrPage, api.ErrPage},
		{3, api.OK, api.ErrPage},
		{4, api.OK, api.OK},
		{api.MaxPages, api.OK, api.OK},
	} {
		for _, gen := range generations() {
			d, want := disk.New(c.pages), c.even
			if gen%2 == 1 {
				want = c.odd
			}
			wantWrite(t, d, gen, uneven(1), want)
			if want != api.OK {
				wantPending(t, d)
				wantRead(t, d, gen, Counts{}, want)
			} else {
				wantPending(t, d, Area(gen))
				wantRead(t, d, gen, uneven(1), api.OK)
			}
		}
	}
}

func TestNothingIsSynced(t *testing.T) {
	for _, gen := range []uint64{8, 9} {
		d := disk.New(4)
		d.Write(0, made(1, uneven(9)))
		wantWrite(t, d, gen, uneven(1), api.OK)
		wantPending(t, d, 0, Area(gen))
		wantStable(t, d, 0, api.Page{})
		wantStable(t, d, Area(gen), api.Page{})
		wantRead(t, d, gen, uneven(1), api.OK)
		d.Crash()
		wantRead(t, d, gen, Counts{}, api.ErrTally)

		wantWrite(t, d, gen, uneven(1), api.OK)
		d.Sync()
		d.Crash()
		wantRead(t, d, gen, uneven(1), api.OK)
		wantWrite(t, d, gen+2, uneven(2), api.OK)
		wantRead(t, d, gen, Counts{}, api.ErrTally)
		d.Crash()
		wantRead(t, d, gen, uneven(1), api.OK)
		wantRead(t, d, gen+2, Counts{}, api.ErrTally)
	}
}

func TestTornWrites(t *testing.T) {
	for _, start := range []Counts{{}, uneven(1), full(255)} {
		for mask := range 256 {
			d := disk.New(4)
			wantWrite(t, d, 8, start, api.OK)
			d.Sync()
			wantWrite(t, d, 10, uneven(2), api.OK)
			d.Crash(byte(mask))
			switch mask {
			case 0:
				wantRead(t, d, 8, start, api.OK)
				wantRead(t, d, 10, Counts{}, api.ErrTally)
			case 255:
				wantRead(t, d, 8, Counts{}, api.ErrTally)
				wantRead(t, d, 10, uneven(2), api.OK)
			default:
				wantRead(t, d, 8, Counts{}, api.ErrTally)
				wantRead(t, d, 10, Counts{}, api.ErrTally)
			}
		}
	}
}

func TestBadArea(t *testing.T) {
	for _, gen := range []uint64{0, 1, 8, 9, math.MaxUint64} {
		d := disk.New(6)
		wantWrite(t, d, gen, uneven(1), api.OK)
		d.Sync()
		for i := range 6 {
			d.Spoil(i, i != Area(gen))
		}
		wantRead(t, d, gen, uneven(1), api.OK)
		d.Spoil(Area(gen), true)
		wantRead(t, d, gen, Counts{}, api.ErrFault)
		wantRead(t, d, gen^2, Counts{}, api.ErrFault)
		// What can't be read can be written.
		wantWrite(t, d, gen, uneven(2), api.OK)
		wantPending(t, d, Area(gen))
		wantRead(t, d, gen, Counts{}, api.ErrFault)
		d.Sync()
		d.Spoil(Area(gen), false)
		wantRead(t, d, gen, uneven(2), api.OK)
	}
	d := disk.New(4)
	d.Spoil(2, true)
	wantRead(t, d, 8, Counts{}, api.ErrFault)
	wantRead(t, d, 9, Counts{}, api.ErrTally)
}

func TestDown(t *testing.T) {
	d := disk.New(4)
	wantWrite(t, d, 8, uneven(1), api.OK)
	d.Sync()
	wantWrite(t, d, 9, uneven(2), api.OK)
	d.Cut(0)
	// Reading is no act.
	wantRead(t, d, 8, uneven(1), api.OK)
	if d.Down() {
		t.Error("down by a Read")
	}
	wantWrite(t, d, 10, uneven(3), api.ErrPower)
	if !d.Down() {
		t.Error("not down by a Write")
	}
	wantWrite(t, d, 11, uneven(3), api.ErrPower)
	wantPending(t, d, 3)
	wantRead(t, d, 8, uneven(1), api.OK)
	wantRead(t, d, 9, uneven(2), api.OK)
	wantRead(t, d, 10, Counts{}, api.ErrTally)
	d.Spoil(2, true)
	wantRead(t, d, 8, Counts{}, api.ErrFault)
	wantWrite(t, d, 8, uneven(3), api.ErrPower)
	d.Spoil(2, false)
	d.Crash(255)
	wantRead(t, d, 8, uneven(1), api.OK)
	wantRead(t, d, 9, uneven(2), api.OK)
	wantWrite(t, d, 10, uneven(3), api.OK)
	wantRead(t, d, 10, uneven(3), api.OK)

	// A page that there isn't is told ahead of the power.
	d = disk.New(3)
	d.Cut(0)
	wantWrite(t, d, 9, uneven(1), api.ErrPage)
	if d.Down() {
		t.Error("down by a Write to no page")
	}
	wantWrite(t, d, 8, uneven(1), api.ErrPower)
	wantWrite(t, d, 9, uneven(1), api.ErrPage)
	wantRead(t, d, 8, Counts{}, api.ErrTally)
	wantRead(t, d, 9, Counts{}, api.ErrPage)
}

func TestActs(t *testing.T) {
	for n := range 5 {
		d := disk.New(4)
		d.Cut(n)
		for k := range n {
			wantWrite(t, d, uint64(k), uneven(byte(k)), api.OK)
			Read(d, uint64(k))
			if d.Down() {
				t.Error("down behind", k+1, "Writes of", n)
			}
		}
		wantWrite(t, d, uint64(n), uneven(9), api.ErrPower)
		if len(d.Pending()) != n || !d.Down() {
			t.Error(n, d.Pending(), d.Down())
		}
	}
}

func TestUsed(t *testing.T) {
	for _, c := range []struct {
		counts Counts
		want   int
	}{
		{Counts{}, 0}, {full(1), 240}, {full(128), 240}, {full(255), 240},
		{Counts{0: 7, 239: 255}, 2}, {Counts{3: 1, 4: 2, 200: 9}, 3},
	} {
		if n := Used(c.counts); n != c.want {
			t.Errorf("Used: %d, not %d", n, c.want)
		}
	}
	for at := range 240 {
		for n := 1; n < 256; n++ {
			if used := Used(single(at, byte(n))); used != 1 {
				t.Fatalf("Used of %d at %d: %d", n, at, used)
			}
		}
		c := full(255)
		c[at] = 0
		if n := Used(c); n != 239 {
			t.Errorf("Used without one at %d: %d", at, n)
		}
		var some Counts
		for i := range at {
			some[i] = byte(i%255 + 1)
		}
		if n := Used(some); n != at {
			t.Errorf("Used of %d: %d", at, n)
		}
	}
}

// story: Writes, Syncs, Cuts, crashes and spoilt pages, held against what the areas hold by the document's words.
func story(t *testing.T, seed int64) {
	r := rand.New(rand.NewSource(seed))
	d, twin := disk.New(4), disk.New(4)
	for range 200 {
		gen := uint64(r.Intn(6))
		switch r.Intn(7) {
		case 0, 1, 2:
			c := uneven(byte(r.Intn(3)))
			if e := Write(d, gen, c); e != twin.Write(2+int(gen&1), made(gen, c)) {
				t.Fatal("seed", seed, "Write", e)
			}
		case 3:
			if d.Sync() != twin.Sync() {
				t.Fatal("seed", seed, "Sync")
			}
		case 4:
			n := r.Intn(8) - 1
			d.Cut(n)
			twin.Cut(n)
		case 5:
			keep := []byte{byte(r.Intn(256)), 255, byte(r.Intn(256))}
			d.Crash(keep...)
			twin.Crash(keep...)
		case 6:
			i, bad := r.Intn(4), r.Intn(3) == 0
			d.Spoil(i, bad)
			twin.Spoil(i, bad)
		}
		for gen := range uint64(6) {
			page, e := twin.Read(2 + int(gen&1))
			var c Counts
			copy(c[:], page[8:248])
			if e == api.OK && page != made(gen, c) {
				e = api.ErrTally
			}
			if e != api.OK {
				c = Counts{}
			}
			wantRead(t, d, gen, c, e)
		}
		if !slices.Equal(d.Pending(), twin.Pending()) || d.Down() != twin.Down() {
			t.Fatal("seed", seed, d.Pending(), twin.Pending())
		}
		if t.Failed() {
			t.Fatal("seed", seed)
		}
	}
}

func TestStories(t *testing.T) {
	for seed := range int64(20) {
		story(t, seed)
	}
}

func TestAnyPages(t *testing.T) {
	r := rand.New(rand.NewSource(1))
	for range 2000 {
		var p api.Page
		r.Read(p[:])
		gen := r.Uint64()
		wantNone(t, p, gen)
		// Whole but for the zeros, then whole.
		for k := range 8 {
			p[k] = byte(gen >> (8 * k))
		}
		p = resealed(p)
		if [4]byte(p[252:]) != [4]byte{} {
			wantNone(t, p, gen)
		}
		clear(p[252:])
		wantOpen(t, p, gen, Counts(p[8:248]), api.OK)
		wantNone(t, p, gen+1)
	}
}
