package pool

import (
	"math"
	"math/rand"
	"testing"

	"understudy/api"
	"understudy/tally"
)

// absent: numbers of pages that a pool of that size hasn't.
func absent(size int) []int {
	return []int{-1, -2, size, size + 1, 240, 241, 255, 256, 1 << 32, math.MinInt, math.MinInt + 1, math.MaxInt}
}

// sizes: what is asked for, and how many pages there are then.
func sizes() map[int]int {
	return map[int]int{
		math.MinInt: 0, -240: 0, -1: 0, 0: 0, 1: 1, 2: 2, 128: 128, 239: 239,
		240: 240, 241: 240, 255: 240, 256: 240, 1 << 32: 240, math.MaxInt: 240,
	}
}

func full(n byte) tally.Counts {
	var c tally.Counts
	for i := range c {
		c[i] = n
	}
	return c
}

// single: one count isn't 0.
func single(at int, n byte) tally.Counts {
	var c tally.Counts
	c[at] = n
	return c
}

func loaded(t *testing.T, size int, c tally.Counts) *Pool {
	t.Helper()
	p, e := Load(size, c)
	if p == nil || e != api.OK {
		t.Fatalf("Load(%d): %v, %d", size, p, e)
	}
	return p
}

func wantTake(t *testing.T, p *Pool, want int) {
	t.Helper()
	if i, e := p.Take(); i != want || e != api.OK {
		t.Errorf("Take: %d, %d, not %d", i, e, want)
	}
}

func wantNoSpace(t *testing.T, p *Pool) {
	t.Helper()
	if i, e := p.Take(); i != 0 || e != api.ErrSpace {
		t.Errorf("Take: %d, %d, not 0, %d", i, e, api.ErrSpace)
	}
}

func wantHold(t *testing.T, p *Pool, i int, want api.Errno) {
	t.Helper()
	if e := p.Hold(i); e != want {
		t.Errorf("Hold of %d: %d, not %d", i, e, want)
	}
}

func wantDrop(t *testing.T, p *Pool, i int, gone bool, want api.Errno) {
	t.Helper()
	if x, e := p.Drop(i); x != gone || e != want {
		t.Errorf("Drop of %d: %v, %d, not %v, %d", i, x, e, gone, want)
	}
}

func wantPage(t *testing.T, p *Pool, i, count int, fresh bool) {
	t.Helper()
	if n, f := p.Count(i), p.Fresh(i); n != count || f != fresh {
		t.Errorf("page %d: %d, %v, not %d, %v", i, n, f, count, fresh)
	}
}

func wantFree(t *testing.T, p *Pool, want int) {
	t.Helper()
	if n := p.Free(); n != want {
		t.Errorf("Free: %d, not %d", n, want)
	}
}

// wantNotHeld: neither Hold nor Drop does anything.
func wantNotHeld(t *testing.T, p *Pool, i int) {
	t.Helper()
	was := seen(p)
	wantHold(t, p, i, api.ErrFree)
	wantDrop(t, p, i, false, api.ErrFree)
	if seen(p) != was {
		t.Errorf("page %d: an error changed the pool", i)
	}
}

// view is all that a pool tells at once, beside what Clones of it would Take.
type view struct {
	size, free int
	counts     tally.Counts
	listed     [242]int
	fresh      [242]bool
	taken      [240]int
	tidied     int
	committed  int
}

// seen: the pool is asked, Clones of it are tried.
func seen(p *Pool) view {
	v := view{size: p.Size(), free: p.Free(), counts: p.Counts()}
	for i := range v.listed {
		v.listed[i], v.fresh[i] = p.Count(i-1), p.Fresh(i-1)
	}
	k := p.Clone()
	for i := range v.taken {
		n, e := k.Take()
		v.taken[i] = n
		if e != api.OK {
			v.taken[i] = -int(e)
		}
	}
	k = p.Clone()
	k.Tidy()
	v.tidied = k.Free()
	k = p.Clone()
	k.Commit()
	v.committed = k.Free()
	return v
}

func TestLimits(t *testing.T) {
	if api.MaxPool != 240 || api.MaxCount != 255 || api.ErrSpace != 71 || api.ErrCount != 72 || api.ErrFree != 73 || api.ErrTally != 61 {
		t.Error(api.MaxPool, api.MaxCount, api.ErrSpace, api.ErrCount, api.ErrFree, api.ErrTally)
	}
}

func TestExample(t *testing.T) {
	p := New(2)
	wantTake(t, p, 0)
	wantHold(t, p, 0, api.OK)
	p.Commit()
	wantDrop(t, p, 0, true, api.OK)
	wantTake(t, p, 1)
	p.Commit()
	wantTake(t, p, 0)
}

func TestNew(t *testing.T) {
	for size, want := range sizes() {
		p := New(size)
		if p.Size() != want || p.Free() != want || p.Counts() != (tally.Counts{}) {
			t.Errorf("New(%d): %d, %d free", size, p.Size(), p.Free())
		}
		for i := range want {
			wantPage(t, p, i, 0, false)
			wantNotHeld(t, p, i)
		}
		for i := range want {
			wantTake(t, p, i)
			wantFree(t, p, want-i-1)
			wantPage(t, p, i, 0, true)
		}
		wantNoSpace(t, p)
		wantNoSpace(t, p)
		wantFree(t, p, 0)
	}
}

func TestLoad(t *testing.T) {
	for size, want := range sizes() {
		p := loaded(t, size, tally.Counts{})
		if seen(p) != seen(New(size)) {
			t.Errorf("Load(%d) of zeros isn't New", size)
		}
		if want == 0 {
			continue
		}
		// The last place that the size still has.
		for _, n := range []byte{1, 128, 255} {
			p = loaded(t, size, single(want-1, n))
			wantPage(t, p, want-1, int(n), false)
			wantFree(t, p, want-1)
			if p.Size() != want || p.Counts() != single(want-1, n) {
				t.Errorf("Load(%d) with a last count: %d, %v", size, p.Size(), p.Counts())
			}
		}
	}
	p := loaded(t, 240, full(255))
	wantFree(t, p, 0)
	wantNoSpace(t, p)
	if p.Counts() != full(255) {
		t.Error(p.Counts())
	}
	for i := range 240 {
		wantPage(t, p, i, 255, false)
		wantHold(t, p, i, api.ErrCount)
	}
}

func TestLoadOfPagesThatThereArent(t *testing.T) {
	for size, have := range sizes() {
		for at := have; at < 240; at++ {
			for _, n := range []byte{1, 255} {
				if p, e := Load(size, single(at, n)); p != nil || e != api.ErrTally {
					t.Errorf("Load(%d) with a count at %d: %v, %d", size, at, p, e)
				}
			}
		}
		p, e := Load(size, full(1))
		if have == 240 && (p == nil || e != api.OK) || have < 240 && (p != nil || e != api.ErrTally) {
			t.Errorf("Load(%d) of ones: %v, %d", size, p, e)
		}
	}
}

func TestLoadedPagesAreStill(t *testing.T) {
	p := loaded(t, 6, tally.Counts{0: 1, 2: 2, 3: 255})
	wantFree(t, p, 3)
	for i, n := range []int{1, 0, 2, 255, 0, 0} {
		wantPage(t, p, i, n, false)
	}
	// So what is given up GOES: it is there again behind Commit.
	wantDrop(t, p, 0, true, api.OK)
	wantDrop(t, p, 2, false, api.OK)
	wantDrop(t, p, 2, true, api.OK)
	wantFree(t, p, 3)
	wantTake(t, p, 1)
	wantTake(t, p, 4)
	wantHold(t, p, 4, api.OK)
	p.Tidy()
	wantTake(t, p, 5)
	wantNoSpace(t, p)
	p.Commit()
	wantFree(t, p, 4)
	for _, i := range []int{0, 1, 2, 5} {
		wantTake(t, p, i)
	}
	wantNoSpace(t, p)
	if p.Counts() != (tally.Counts{3: 255, 4: 1}) {
		t.Error(p.Counts())
	}
}

func TestPagesThatThereArent(t *testing.T) {
	for size, have := range sizes() {
		p := New(size)
		for range have / 2 {
			p.Take()
		}
		for _, i := range absent(have) {
			wantPage(t, p, i, 0, false)
			wantNotHeld(t, p, i)
		}
		p.Mark()
		for _, i := range absent(have) {
			wantPage(t, p, i, 0, false)
			wantNotHeld(t, p, i)
		}
		if p.Counts() != (tally.Counts{}) || p.Size() != have {
			t.Error(size, p.Size(), p.Counts())
		}
	}
}

func TestTakeTheLeast(t *testing.T) {
	var c tally.Counts
	for i := range 100 {
		c[i] = byte(i%3) * 7
	}
	p := loaded(t, 100, c)
	wantFree(t, p, 34)
	for i := 0; i < 100; i += 3 {
		wantTake(t, p, i)
		wantPage(t, p, i, 0, true)
	}
	wantNoSpace(t, p)
	if p.Counts() != c {
		t.Error("Take counts")
	}
	// What is given back is taken anew, the least first.
	for _, i := range []int{60, 3, 99, 0} {
		wantDrop(t, p, i, true, api.OK)
	}
	wantFree(t, p, 4)
	for _, i := range []int{0, 3, 60, 99} {
		wantTake(t, p, i)
	}
	wantNoSpace(t, p)
}

func TestHoldUpTo255(t *testing.T) {
	p := New(3)
	wantTake(t, p, 0)
	for n := range 255 {
		wantPage(t, p, 0, n, true)
		wantHold(t, p, 0, api.OK)
	}
	for range 2 {
		wantHold(t, p, 0, api.ErrCount)
		wantPage(t, p, 0, 255, true)
	}
	p.Mark()
	wantHold(t, p, 0, api.ErrCount)
	p.Commit()
	wantHold(t, p, 0, api.ErrCount)
	wantPage(t, p, 0, 255, false)
	for n := 254; n > 0; n-- {
		wantDrop(t, p, 0, false, api.OK)
		wantPage(t, p, 0, n, false)
	}
	wantHold(t, p, 0, api.OK)
	wantDrop(t, p, 0, false, api.OK)
	wantDrop(t, p, 0, true, api.OK)
	wantPage(t, p, 0, 0, false)
	wantNotHeld(t, p, 0)
}

func TestDropOfAFreshPage(t *testing.T) {
	// Never held, held once, held more often.
	for n := range 4 {
		p := New(2)
		wantTake(t, p, 0)
		for range n {
			wantHold(t, p, 0, api.OK)
		}
		for k := n - 1; k > 0; k-- {
			wantDrop(t, p, 0, false, api.OK)
			wantPage(t, p, 0, k, true)
			wantFree(t, p, 1)
		}
		wantDrop(t, p, 0, true, api.OK)
		wantPage(t, p, 0, 0, false)
		wantFree(t, p, 2)
		wantNotHeld(t, p, 0)
		wantTake(t, p, 0)
		wantTake(t, p, 1)
	}
}

func TestDropOfAYoungPage(t *testing.T) {
	for n := range 4 {
		for _, tidy := range []bool{false, true} {
			p := New(3)
			wantTake(t, p, 0)
			for range n {
				wantHold(t, p, 0, api.OK)
			}
			p.Mark()
			wantPage(t, p, 0, n, true)
			for range n - 1 {
				wantDrop(t, p, 0, false, api.OK)
			}
			wantDrop(t, p, 0, true, api.OK)
			wantPage(t, p, 0, 0, false)
			wantFree(t, p, 2)
			wantNotHeld(t, p, 0)
			wantTake(t, p, 1)
			// Another Mark doesn't make it free.
			p.Mark()
			wantTake(t, p, 2)
			wantNoSpace(t, p)
			if tidy {
				p.Tidy()
				wantFree(t, p, 1)
				wantTake(t, p, 0)
				wantPage(t, p, 1, 0, true)
			} else {
				p.Commit()
				wantFree(t, p, 3)
				wantTake(t, p, 0)
				wantPage(t, p, 1, 0, false)
			}
		}
	}
}

func TestDropOfAPageHeldAtACommit(t *testing.T) {
	p := New(3)
	wantTake(t, p, 0)
	wantHold(t, p, 0, api.OK)
	wantHold(t, p, 0, api.OK)
	p.Commit()
	wantPage(t, p, 0, 2, false)
	wantDrop(t, p, 0, false, api.OK)
	wantDrop(t, p, 0, true, api.OK)
	wantPage(t, p, 0, 0, false)
	wantFree(t, p, 2)
	wantNotHeld(t, p, 0)
	p.Mark()
	wantNotHeld(t, p, 0)
	p.Tidy()
	wantNotHeld(t, p, 0)
	wantFree(t, p, 2)
	wantTake(t, p, 1)
	wantTake(t, p, 2)
	wantNoSpace(t, p)
	p.Commit()
	// What was Taken and never Held is free as well.
	wantFree(t, p, 3)
	wantTake(t, p, 0)
	wantPage(t, p, 0, 0, true)
}

func TestMark(t *testing.T) {
	p := New(4)
	wantTake(t, p, 0)
	wantHold(t, p, 0, api.OK)
	wantTake(t, p, 1)
	m := p.Mark()
	wantTake(t, p, 2)
	// 0 and 1 were taken ahead of the mark, 2 behind it.
	for i := range 3 {
		wantPage(t, p, i, []int{1, 0, 0}[i], true)
		wantDrop(t, p, i, true, api.OK)
	}
	wantFree(t, p, 2)
	wantTake(t, p, 2)
	wantTake(t, p, 3)
	wantNoSpace(t, p)
	// The mark is as it was, and what it has is YOUNG there too.
	wantFree(t, m, 2)
	wantPage(t, m, 0, 1, true)
	wantPage(t, m, 1, 0, true)
	wantPage(t, m, 2, 0, false)
	wantDrop(t, m, 0, true, api.OK)
	wantDrop(t, m, 1, true, api.OK)
	wantFree(t, m, 2)
	wantTake(t, m, 2)
	m.Tidy()
	wantTake(t, m, 0)
	// What is taken behind a Tidy is FRESH.
	wantDrop(t, m, 0, true, api.OK)
	wantTake(t, m, 0)
	wantNoSpace(t, p)
}

func TestMarkOfNothingFresh(t *testing.T) {
	p := loaded(t, 4, tally.Counts{0: 1, 1: 2})
	wantDrop(t, p, 0, true, api.OK)
	was := seen(p)
	m := p.Mark()
	if seen(p) != was || seen(m) != was {
		t.Error("Mark changed what isn't FRESH")
	}
	// A page that is STILL isn't YOUNG by a Mark: it GOES, and no Tidy brings it back.
	wantDrop(t, p, 1, false, api.OK)
	wantDrop(t, p, 1, true, api.OK)
	p.Tidy()
	wantFree(t, p, 2)
	p.Commit()
	wantFree(t, p, 4)
}

func TestYoungStaysTillCommit(t *testing.T) {
	p := New(2)
	wantTake(t, p, 0)
	p.Mark()
	p.Mark()
	p.Tidy()
	wantPage(t, p, 0, 0, true)
	wantHold(t, p, 0, api.OK)
	wantDrop(t, p, 0, true, api.OK)
	wantFree(t, p, 1)
	p.Tidy()
	wantFree(t, p, 2)
	wantTake(t, p, 0)
	wantHold(t, p, 0, api.OK)
	p.Mark()
	p.Commit()
	wantPage(t, p, 0, 1, false)
	wantDrop(t, p, 0, true, api.OK)
	p.Tidy()
	wantFree(t, p, 1)
}

func TestTidyLeavesTheRest(t *testing.T) {
	p := loaded(t, 6, tally.Counts{0: 1, 1: 3})
	wantDrop(t, p, 0, true, api.OK)
	wantTake(t, p, 2)
	p.Mark()
	wantTake(t, p, 3)
	was := seen(p)
	p.Tidy()
	if seen(p) != was {
		t.Error("Tidy changed what isn't SPENT")
	}
	// 2 is YOUNG still, 3 FRESH, 0 GOES, 1 STILL.
	wantDrop(t, p, 3, true, api.OK)
	wantTake(t, p, 3)
	wantDrop(t, p, 2, true, api.OK)
	wantTake(t, p, 4)
	wantNotHeld(t, p, 0)
	wantPage(t, p, 1, 3, false)
}

func TestCommit(t *testing.T) {
	p := loaded(t, 8, tally.Counts{0: 1, 1: 9})
	wantDrop(t, p, 0, true, api.OK) // GOES
	for i := 2; i < 5; i++ {
		wantTake(t, p, i)
	}
	wantHold(t, p, 2, api.OK)
	p.Mark()
	wantDrop(t, p, 4, true, api.OK) // SPENT; 2 and 3 are YOUNG
	wantTake(t, p, 5)
	wantTake(t, p, 6)
	wantHold(t, p, 5, api.OK) // 5 and 6 are FRESH
	wantFree(t, p, 1)
	p.Commit()
	if p.Size() != 8 || p.Counts() != (tally.Counts{1: 9, 2: 1, 5: 1}) {
		t.Error(p.Size(), p.Counts())
	}
	if seen(p) != seen(loaded(t, 8, p.Counts())) {
		t.Error("behind Commit it isn't what its Counts tell")
	}
	for _, i := range []int{0, 3, 4, 6, 7} {
		wantNotHeld(t, p, i)
	}
	for i := range 8 {
		if p.Fresh(i) {
			t.Error(i, "is FRESH behind Commit")
		}
	}
	for _, i := range []int{0, 3, 4, 6, 7} {
		wantTake(t, p, i)
	}
	wantNoSpace(t, p)
}

// TestNothingIsTakenThatOneMayGoBackTo: what was held at the last Commit, and at each Mark since the last Tidy, isn't Taken.
func TestNothingIsTakenThatOneMayGoBackTo(t *testing.T) {
	r := rand.New(rand.NewSource(7))
	for range 50 {
		p := New(12)
		kept := p.Clone()
		var marks []*Pool
		for range 200 {
			i := r.Intn(12)
			switch r.Intn(12) {
			case 0:
				marks = append(marks, p.Mark())
			case 1:
				p.Tidy()
				marks = nil
			case 2:
				p.Commit()
				kept, marks = p.Clone(), nil
			case 3, 4, 5:
				p.Hold(i)
			case 6, 7, 8:
				p.Drop(i)
			default:
				i, e := p.Take()
				if e != api.OK {
					continue
				}
				if kept.Count(i) != 0 {
					t.Fatalf("page %d was held at the Commit", i)
				}
				for _, m := range marks {
					if m.Count(i) != 0 || m.Fresh(i) {
						t.Fatalf("page %d was held at a Mark", i)
					}
				}
			}
		}
	}
}

// stirred: a pool with pages of each kind, counted and not.
func stirred(t *testing.T) *Pool {
	t.Helper()
	p := loaded(t, 10, tally.Counts{0: 1, 1: 2, 9: 255})
	wantDrop(t, p, 0, true, api.OK)
	for i := 2; i < 6; i++ {
		wantTake(t, p, i)
	}
	wantHold(t, p, 3, api.OK)
	p.Mark()
	wantDrop(t, p, 4, true, api.OK)
	wantTake(t, p, 6)
	wantTake(t, p, 7)
	wantHold(t, p, 7, api.OK)
	return p
}

// change: each call that may change something.
func change(p *Pool) {
	for i := range p.Size() {
		p.Hold(i)
	}
	p.Take()
	p.Mark()
	for i := range p.Size() {
		p.Drop(i)
		p.Drop(i)
	}
	p.Tidy()
	p.Take()
	p.Commit()
	p.Take()
}

func TestClonesStandAlone(t *testing.T) {
	p := stirred(t)
	was := seen(p)
	k := p.Clone()
	if k == p || seen(k) != was {
		t.Error("a Clone isn't the same")
	}
	change(k)
	if seen(p) != was || seen(k) == was {
		t.Error("a Clone's change is the pool's")
	}
	k = p.Clone()
	change(p)
	if seen(k) != was || seen(p) == was {
		t.Error("a pool's change is its Clone's")
	}

	p = stirred(t)
	m := p.Mark()
	marked := seen(m)
	if m == p || seen(p) != marked {
		t.Error("what Mark answers isn't the same")
	}
	change(m)
	if seen(p) != marked {
		t.Error("a mark's change is the pool's")
	}
	m = p.Mark()
	change(p)
	if seen(m) != marked {
		t.Error("a pool's change is its mark's")
	}
}

func TestAskingChangesNothing(t *testing.T) {
	p := stirred(t)
	was := *p
	for i := -2; i < 12; i++ {
		p.Count(i)
		p.Fresh(i)
	}
	p.Size()
	p.Free()
	p.Clone()
	x := p.Counts()
	x[0]++
	if *p != was {
		t.Error("asking changed the pool")
	}
	c := tally.Counts{0: 3}
	q := loaded(t, 2, c)
	c[0]++
	q.Hold(0)
	q.Hold(0)
	if c != (tally.Counts{0: 4}) || q.Count(0) != 5 {
		t.Error(c, q.Count(0))
	}
}

// model is the document's words: a name and a count of each page.
type model struct {
	count []int
	name  []string
}

func (m *model) clone() *model {
	return &model{append([]int{}, m.count...), append([]string{}, m.name...)}
}

func (m *model) free(i int) bool { return m.count[i] == 0 && m.name[i] == "STILL" }

func (m *model) held(i int) bool {
	return i >= 0 && i < len(m.count) && (m.count[i] != 0 || m.name[i] == "FRESH" || m.name[i] == "YOUNG")
}

func (m *model) take() (int, api.Errno) {
	for i := range m.count {
		if m.free(i) {
			m.name[i] = "FRESH"
			return i, api.OK
		}
	}
	return 0, api.ErrSpace
}

func (m *model) hold(i int) api.Errno {
	switch {
	case !m.held(i):
		return api.ErrFree
	case m.count[i] == 255:
		return api.ErrCount
	}
	m.count[i]++
	return api.OK
}

func (m *model) drop(i int) (bool, api.Errno) {
	if !m.held(i) {
		return false, api.ErrFree
	}
	m.count[i] = max(m.count[i]-1, 0)
	if m.count[i] != 0 {
		return false, api.OK
	}
	m.name[i] = map[string]string{"FRESH": "STILL", "YOUNG": "SPENT", "STILL": "GOES"}[m.name[i]]
	return true, api.OK
}

func (m *model) rename(from, to string) {
	for i, name := range m.name {
		if from == "" || name == from {
			m.name[i] = to
		}
	}
}

func (m *model) same(p *Pool) bool {
	free, c := 0, p.Counts()
	for i := range 240 {
		count, fresh := 0, false
		if i < len(m.count) {
			count, fresh = m.count[i], m.name[i] == "FRESH" || m.name[i] == "YOUNG"
			if m.free(i) {
				free++
			}
		}
		if p.Count(i) != count || p.Fresh(i) != fresh || int(c[i]) != count {
			return false
		}
	}
	return p.Free() == free && p.Size() == len(m.count)
}

// step: one call, of the pool and of the model; false, if they answer otherwise.
func step(r *rand.Rand, p *Pool, m *model) bool {
	i := r.Intn(len(m.count)+2) - 1
	switch r.Intn(16) {
	case 0, 1, 2, 3:
		x, e := p.Take()
		y, f := m.take()
		return x == y && e == f
	case 4, 5, 6, 7:
		return p.Hold(i) == m.hold(i)
	case 8, 9, 10, 11, 12:
		x, e := p.Drop(i)
		y, f := m.drop(i)
		return x == y && e == f
	case 13:
		k := p.Mark()
		m.rename("FRESH", "YOUNG")
		return m.same(k)
	case 14:
		p.Tidy()
		m.rename("SPENT", "STILL")
	case 15:
		p.Commit()
		m.rename("", "STILL")
	}
	return true
}

func TestStories(t *testing.T) {
	for seed := range int64(200) {
		r := rand.New(rand.NewSource(seed))
		size := []int{0, 1, 2, 3, 5, 8, 20, 240}[r.Intn(8)]
		var c tally.Counts
		m := &model{}
		for i := range size {
			c[i] = []byte{0, 0, 1, 2, 254, 255}[r.Intn(6)]
			m.count, m.name = append(m.count, int(c[i])), append(m.name, "STILL")
		}
		p := loaded(t, size, c)
		aside, asideModel := p, m
		for n := range 400 {
			switch r.Intn(20) {
			case 0:
				aside, asideModel = p.Clone(), m.clone()
			case 1:
				p, m, aside, asideModel = aside, asideModel, p.Clone(), m.clone()
			}
			if !step(r, p, m) || !m.same(p) || !asideModel.same(aside) {
				t.Fatal("seed", seed, "step", n)
			}
		}
	}
}
