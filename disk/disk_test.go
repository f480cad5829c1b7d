package disk

import (
	"bytes"
	"math"
	"math/rand"
	"slices"
	"testing"

	"understudy/api"
)

// full: a page of one byte.
func full(c byte) api.Page {
	return api.Page(bytes.Repeat([]byte{c}, api.PageSize))
}

// uneven: a page in which no two bytes of one sector, and no two sectors, are alike.
func uneven(c byte) api.Page {
	var p api.Page
	for i := range p {
		p[i] = byte(i) ^ c
	}
	return p
}

// mixed: a page whose sectors are those of one page where mask's bit is set, those of another one where it isn't.
func mixed(set, unset api.Page, mask byte) api.Page {
	var p api.Page
	for i := range p {
		p[i] = unset[i]
		if mask&(1<<(i/32)) != 0 {
			p[i] = set[i]
		}
	}
	return p
}

// away: pages that a disk of n pages hasn't.
func away(n int) []int {
	return []int{-1, -2, n, n + 1, 2 * n, math.MaxInt, math.MinInt, math.MaxInt32 + 1, 1 << 32, -1 << 32}
}

func wantRead(t *testing.T, d *Disk, i int, want api.Page, wantErr api.Errno) {
	t.Helper()
	if p, e := d.Read(i); p != want || e != wantErr {
		t.Errorf("Read(%d): %v, %d, not %v, %d", i, p, e, want, wantErr)
	}
}

func wantStable(t *testing.T, d *Disk, i int, want api.Page, wantErr api.Errno) {
	t.Helper()
	if p, e := d.Stable(i); p != want || e != wantErr {
		t.Errorf("Stable(%d): %v, %d, not %v, %d", i, p, e, want, wantErr)
	}
}

func wantPending(t *testing.T, d *Disk, want ...int) {
	t.Helper()
	if l := d.Pending(); !slices.Equal(l, want) {
		t.Errorf("Pending: %v, not %v", l, want)
	}
}

func wantWrite(t *testing.T, d *Disk, i int, p api.Page, want api.Errno) {
	t.Helper()
	if e := d.Write(i, p); e != want {
		t.Errorf("Write(%d): %d, not %d", i, e, want)
	}
}

func wantSync(t *testing.T, d *Disk, want api.Errno) {
	t.Helper()
	if e := d.Sync(); e != want {
		t.Errorf("Sync: %d, not %d", e, want)
	}
}

func wantDown(t *testing.T, d *Disk, want bool) {
	t.Helper()
	if d.Down() != want {
		t.Errorf("Down: not %v", want)
	}
}

func wantSpoil(t *testing.T, d *Disk, i int, bad bool, want api.Errno) {
	t.Helper()
	if e := d.Spoil(i, bad); e != want {
		t.Errorf("Spoil(%d, %v): %d, not %d", i, bad, e, want)
	}
}

func TestLimits(t *testing.T) {
	if api.PageSize != 256 || api.SectorSize != 32 || api.Sectors != 8 || api.MaxPages != 244 {
		t.Error(api.PageSize, api.SectorSize, api.Sectors, api.MaxPages)
	}
	if api.ErrPage != 41 || api.ErrPower != 42 || api.ErrFault != 43 {
		t.Error(api.ErrPage, api.ErrPower, api.ErrFault)
	}
}

func TestNew(t *testing.T) {
	for _, c := range []struct{ pages, want int }{
		{4, 4}, {0, 0}, {1, 1}, {243, 243}, {244, 244},
		{245, 244}, {-1, 0}, {-244, 0}, {math.MinInt, 0}, {math.MaxInt, 244}, {1 << 32, 244}, {-1 << 32, 0},
	} {
		d := New(c.pages)
		if n := d.Len(); n != c.want {
			t.Errorf("New(%d): %d pages, not %d", c.pages, n, c.want)
		}
		wantPending(t, d)
		wantDown(t, d, false)
		for i := range c.want {
			wantRead(t, d, i, api.Page{}, api.OK)
			wantStable(t, d, i, api.Page{}, api.OK)
		}
		for _, i := range away(c.want) {
			wantRead(t, d, i, api.Page{}, api.ErrPage)
			wantStable(t, d, i, api.Page{}, api.ErrPage)
			wantWrite(t, d, i, full(1), api.ErrPage)
			wantSpoil(t, d, i, true, api.ErrPage)
			wantSpoil(t, d, i, false, api.ErrPage)
		}
		wantPending(t, d)
		wantSync(t, d, api.OK)
		d.Crash()
		d.Crash(255, 255)
		wantDown(t, d, false)
	}
}

func TestNothingCountsAtFirst(t *testing.T) {
	d := New(1)
	for k := range 1000 {
		wantWrite(t, d, 0, full(byte(k)), api.OK)
		wantSync(t, d, api.OK)
	}
	wantDown(t, d, false)
}

func TestDisksAreApart(t *testing.T) {
	a, b := New(2), New(2)
	a.Write(0, full(1))
	a.Sync()
	a.Write(1, full(2))
	a.Spoil(1, true)
	a.Cut(0)
	a.Sync()
	wantRead(t, b, 0, api.Page{}, api.OK)
	wantRead(t, b, 1, api.Page{}, api.OK)
	wantPending(t, b)
	wantDown(t, b, false)
}

func TestWriteAndSync(t *testing.T) {
	d := New(3)
	wantWrite(t, d, 0, uneven(1), api.OK)
	wantWrite(t, d, 2, uneven(2), api.OK)
	wantWrite(t, d, 0, uneven(3), api.OK)
	wantRead(t, d, 0, uneven(3), api.OK)
	wantRead(t, d, 1, api.Page{}, api.OK)
	wantRead(t, d, 2, uneven(2), api.OK)
	for i := range 3 {
		wantStable(t, d, i, api.Page{}, api.OK)
	}
	wantPending(t, d, 0, 2, 0)
	wantSync(t, d, api.OK)
	wantPending(t, d)
	for i, p := range []api.Page{uneven(3), {}, uneven(2)} {
		wantStable(t, d, i, p, api.OK)
		wantRead(t, d, i, p, api.OK)
	}
	wantSync(t, d, api.OK)
	d.Crash()
	wantRead(t, d, 0, uneven(3), api.OK)
	wantWrite(t, d, 0, full(9), api.OK)
	wantPending(t, d, 0)
	wantStable(t, d, 0, uneven(3), api.OK)
}

func TestLastPage(t *testing.T) {
	d := New(api.MaxPages)
	for _, i := range []int{0, 243} {
		wantWrite(t, d, i, uneven(byte(i)), api.OK)
	}
	wantWrite(t, d, 244, full(1), api.ErrPage)
	wantPending(t, d, 0, 243)
	wantSync(t, d, api.OK)
	wantStable(t, d, 0, uneven(0), api.OK)
	wantStable(t, d, 243, uneven(243), api.OK)
	wantStable(t, d, 1, api.Page{}, api.OK)
	wantStable(t, d, 242, api.Page{}, api.OK)
}

func TestCut(t *testing.T) {
	for n := range 6 {
		d := New(2)
		d.Cut(n)
		for k := range n {
			// A Sync is an act as well as a Write.
			if k%2 == 0 {
				wantWrite(t, d, 0, full(byte(k+1)), api.OK)
			} else {
				wantSync(t, d, api.OK)
			}
			wantDown(t, d, false)
		}
		pending, stable := d.Pending(), d.stable[0]
		wantWrite(t, d, 2, full(9), api.ErrPage)
		wantDown(t, d, false)
		if n%2 == 0 {
			wantWrite(t, d, 0, full(9), api.ErrPower)
		} else {
			wantSync(t, d, api.ErrPower)
		}
		wantDown(t, d, true)
		wantWrite(t, d, 1, full(9), api.ErrPower)
		wantSync(t, d, api.ErrPower)
		wantPending(t, d, pending...)
		wantStable(t, d, 0, stable, api.OK)
		wantRead(t, d, 1, api.Page{}, api.OK)
	}
}

func TestCutAnew(t *testing.T) {
	d := New(1)
	d.Cut(1)
	d.Cut(2)
	wantWrite(t, d, 0, full(1), api.OK)
	d.Cut(2)
	wantWrite(t, d, 0, full(2), api.OK)
	wantWrite(t, d, 0, full(3), api.OK)
	for _, n := range []int{-1, -2, math.MinInt} {
		d.Cut(0)
		d.Cut(n)
		for range 20 {
			wantWrite(t, d, 0, full(4), api.OK)
			wantSync(t, d, api.OK)
		}
	}
	d.Cut(math.MaxInt)
	wantWrite(t, d, 0, full(5), api.OK)
	d.Cut(0)
	wantDown(t, d, false)
	wantSync(t, d, api.ErrPower)
	wantDown(t, d, true)
}

func TestDownStays(t *testing.T) {
	d := New(2)
	d.Write(0, full(1))
	d.Cut(0)
	wantSync(t, d, api.ErrPower)
	for _, n := range []int{5, 0, -1, math.MaxInt} {
		d.Cut(n)
		wantDown(t, d, true)
		wantSync(t, d, api.ErrPower)
		wantWrite(t, d, 0, full(2), api.ErrPower)
		wantWrite(t, d, -1, full(2), api.ErrPage)
		wantWrite(t, d, 2, full(2), api.ErrPage)
	}
	wantPending(t, d, 0)
	wantRead(t, d, 0, full(1), api.OK)
	wantRead(t, d, 1, api.Page{}, api.OK)
	wantRead(t, d, 2, api.Page{}, api.ErrPage)
	wantStable(t, d, 0, api.Page{}, api.OK)
	wantSpoil(t, d, 0, true, api.OK)
	wantRead(t, d, 0, api.Page{}, api.ErrFault)
	wantSpoil(t, d, 0, false, api.OK)
	wantRead(t, d, 0, full(1), api.OK)
}

func TestCrashKeepsTwoSectors(t *testing.T) {
	d := New(1)
	d.Write(0, full(1))
	d.Crash(3)
	var want api.Page
	for i := range 64 {
		want[i] = 1
	}
	wantRead(t, d, 0, want, api.OK)
	wantStable(t, d, 0, want, api.OK)
}

func TestCrashTearsBetweenSectors(t *testing.T) {
	for mask := range 256 {
		d := New(2)
		d.Write(1, uneven(1))
		d.Sync()
		d.Write(1, uneven(0x80))
		d.Crash(byte(mask))
		want := mixed(uneven(0x80), uneven(1), byte(mask))
		wantStable(t, d, 1, want, api.OK)
		wantRead(t, d, 1, want, api.OK)
		wantRead(t, d, 0, api.Page{}, api.OK)
		wantPending(t, d)
	}
}

func TestCrashOfTwoWritesOfOnePage(t *testing.T) {
	for first := range 256 {
		for _, second := range []byte{0, 1, 0x0f, 0x81, 0xaa, 0xff} {
			d := New(1)
			d.Write(0, uneven(1))
			d.Write(0, uneven(2))
			d.Crash(byte(first), second)
			wantStable(t, d, 0, mixed(uneven(2), mixed(uneven(1), api.Page{}, byte(first)), second), api.OK)
		}
	}
}

func TestCrashWithOtherThanOneByteEach(t *testing.T) {
	for _, c := range []struct {
		keep []byte
		want [3]byte
	}{
		{nil, [3]byte{}},
		{[]byte{}, [3]byte{}},
		{[]byte{255}, [3]byte{1}},
		{[]byte{0, 255}, [3]byte{0, 2}},
		{[]byte{255, 255, 255}, [3]byte{1, 2, 3}},
		{[]byte{255, 0, 255}, [3]byte{1, 0, 3}},
		{[]byte{0, 255, 0, 255, 255}, [3]byte{0, 2, 0}},
	} {
		d := New(3)
		for i := range 3 {
			d.Write(i, full(byte(i+1)))
		}
		d.Crash(c.keep...)
		for i, v := range c.want {
			wantStable(t, d, i, full(v), api.OK)
			wantRead(t, d, i, full(v), api.OK)
		}
		wantPending(t, d)
		// What was lost stays so: no byte is left for the next crash.
		d.Crash(255, 255, 255)
		wantSync(t, d, api.OK)
		for i, v := range c.want {
			wantRead(t, d, i, full(v), api.OK)
		}
	}
}

func TestCrashWithNothingPending(t *testing.T) {
	d := New(1)
	d.Write(0, full(1))
	d.Sync()
	for _, keep := range [][]byte{nil, {0}, {255}, {1, 2, 3}} {
		d.Crash(keep...)
		wantRead(t, d, 0, full(1), api.OK)
		wantPending(t, d)
	}
}

func TestCrashBringsPowerBack(t *testing.T) {
	for _, again := range []int{0, 3} {
		d := New(1)
		d.Cut(1)
		wantWrite(t, d, 0, full(1), api.OK)
		wantSync(t, d, api.ErrPower)
		d.Cut(again)
		d.Crash(255)
		wantDown(t, d, false)
		wantRead(t, d, 0, full(1), api.OK)
		for range 10 {
			wantWrite(t, d, 0, full(2), api.OK)
			wantSync(t, d, api.OK)
		}
	}
	d := New(1)
	d.Cut(0)
	d.Crash()
	wantSync(t, d, api.OK)
}

func TestSpoil(t *testing.T) {
	d := New(3)
	d.Write(1, full(1))
	d.Sync()
	wantSpoil(t, d, 1, true, api.OK)
	wantRead(t, d, 1, api.Page{}, api.ErrFault)
	wantStable(t, d, 1, full(1), api.OK)
	wantRead(t, d, 0, api.Page{}, api.OK)
	wantRead(t, d, 2, api.Page{}, api.OK)
	wantWrite(t, d, 1, full(2), api.OK)
	wantPending(t, d, 1)
	wantRead(t, d, 1, api.Page{}, api.ErrFault)
	wantSync(t, d, api.OK)
	wantRead(t, d, 1, api.Page{}, api.ErrFault)
	wantStable(t, d, 1, full(2), api.OK)
	wantSpoil(t, d, 1, true, api.OK)
	wantSpoil(t, d, 0, false, api.OK)
	wantRead(t, d, 1, api.Page{}, api.ErrFault)
	wantSpoil(t, d, 1, false, api.OK)
	wantRead(t, d, 1, full(2), api.OK)
	wantSpoil(t, d, 1, false, api.OK)
	wantRead(t, d, 1, full(2), api.OK)
	wantSpoil(t, d, 1, true, api.OK)
	wantRead(t, d, 1, api.Page{}, api.ErrFault)
}

func TestSpoilIsNoAct(t *testing.T) {
	d := New(1)
	d.Cut(1)
	d.Spoil(0, true)
	d.Spoil(0, false)
	d.Read(0)
	d.Stable(0)
	wantSync(t, d, api.OK)
}

func TestBadStaysBehindCrash(t *testing.T) {
	d := New(3)
	d.Spoil(0, true)
	d.Spoil(1, true)
	d.Spoil(1, false)
	d.Write(0, full(1))
	d.Write(1, full(2))
	d.Crash(255, 255)
	wantRead(t, d, 0, api.Page{}, api.ErrFault)
	wantStable(t, d, 0, full(1), api.OK)
	wantRead(t, d, 1, full(2), api.OK)
	d.Cut(0)
	d.Sync()
	d.Crash()
	wantRead(t, d, 0, api.Page{}, api.ErrFault)
	d.Spoil(0, false)
	wantRead(t, d, 0, full(1), api.OK)
}

func TestPendingIsNewMemory(t *testing.T) {
	d := New(4)
	d.Write(1, full(1))
	d.Write(3, full(2))
	l := d.Pending()
	for i := range l[:cap(l)] {
		l[:cap(l)][i] = 77
	}
	wantPending(t, d, 1, 3)
	l = d.Pending()
	d.Write(2, full(3))
	d.Sync()
	d.Write(0, full(4))
	d.Write(0, full(4))
	if !slices.Equal(l, []int{1, 3}) {
		t.Error(l)
	}
}

func TestCrashLeavesKeep(t *testing.T) {
	d := New(2)
	d.Write(0, full(1))
	d.Write(1, full(2))
	room := []byte{1, 2, 3, 4}
	d.Crash(room[:2]...)
	if !bytes.Equal(room, []byte{1, 2, 3, 4}) {
		t.Error(room)
	}
}

func TestPagesAreCopies(t *testing.T) {
	d := New(1)
	p := full(1)
	d.Write(0, p)
	p[0] = 9
	wantRead(t, d, 0, full(1), api.OK)
	q, _ := d.Read(0)
	q[1] = 9
	wantRead(t, d, 0, full(1), api.OK)
	d.Sync()
	r, _ := d.Stable(0)
	r[2] = 9
	wantStable(t, d, 0, full(1), api.OK)
}

// model: a disk told in the document's words, one sector at a time.
type model struct {
	stable, seen map[int]api.Page
	bad          map[int]bool
	pages        []int
	data         []api.Page
	down, counts bool
	left         int
}

func (m *model) act() bool {
	if m.down || m.counts && m.left == 0 {
		m.down = true
		return false
	}
	m.left--
	return true
}

func (m *model) end(keep func(k int) byte) {
	for k, i := range m.pages {
		m.stable[i] = mixed(m.data[k], m.stable[i], keep(k))
	}
	m.pages, m.data = nil, nil
	m.seen = make(map[int]api.Page)
}

// step: one call of either, the same.
func step(t *testing.T, r *rand.Rand, d *Disk, m *model, n int) {
	i := r.Intn(n+2) - 1
	in := i >= 0 && i < n
	switch r.Intn(8) {
	case 0, 1, 2:
		p := uneven(byte(r.Intn(256)))
		want := api.OK
		if !in {
			want = api.ErrPage
		} else if !m.act() {
			want = api.ErrPower
		} else {
			m.pages, m.data = append(m.pages, i), append(m.data, p)
			m.seen[i] = p
		}
		wantWrite(t, d, i, p, want)
	case 3:
		want := api.ErrPower
		if m.act() {
			want = api.OK
			m.end(func(int) byte { return 255 })
		}
		wantSync(t, d, want)
	case 4:
		k := r.Intn(12) - 1
		m.counts, m.left = k >= 0, k
		d.Cut(k)
	case 5:
		keep := make([]byte, r.Intn(6))
		r.Read(keep)
		d.Crash(keep...)
		// Zeros stand for the bytes that aren't there.
		padded := append(slices.Clone(keep), make([]byte, len(m.pages))...)
		m.end(func(k int) byte { return padded[k] })
		m.down, m.counts = false, false
	default:
		bad := r.Intn(2) == 0
		want := api.ErrPage
		if in {
			want = api.OK
			m.bad[i] = bad
		}
		wantSpoil(t, d, i, bad, want)
	}
}

func TestAsTold(t *testing.T) {
	for seed := range int64(60) {
		r := rand.New(rand.NewSource(seed))
		n := r.Intn(6)
		d := New(n)
		m := &model{stable: make(map[int]api.Page), seen: make(map[int]api.Page), bad: make(map[int]bool)}
		for range 300 {
			step(t, r, d, m, n)
			wantPending(t, d, m.pages...)
			wantDown(t, d, m.down)
			for i := range n {
				wantStable(t, d, i, m.stable[i], api.OK)
				p, pending := m.seen[i]
				if !pending {
					p = m.stable[i]
				}
				if m.bad[i] {
					wantRead(t, d, i, api.Page{}, api.ErrFault)
				} else {
					wantRead(t, d, i, p, api.OK)
				}
			}
		}
		if t.Failed() {
			t.Fatal("seed", seed)
		}
	}
}
