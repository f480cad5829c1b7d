package ends

import (
	"bytes"
	"encoding/binary"
	"math"
	"slices"
	"testing"

	"understudy/api"
)

var wrongWidths = []int{math.MinInt, math.MinInt + 1, -9, -8, -4, -2, -1, 0, 3, 5, 6, 7, 9, 10, 16, 32, 64, 256, 1 << 32, 1<<32 + 1, math.MaxInt - 1, math.MaxInt}

var widths = []int{1, 2, 4, 8}

// greatest: the greatest number of so many bytes.
func greatest(width int) uint64 { return math.MaxUint64 >> (64 - 8*width) }

// littleEnd: what the library makes of a number, to hold Put and Num against.
func littleEnd(width int, n uint64) []byte {
	return binary.LittleEndian.AppendUint64(nil, n)[:width]
}

// samples: numbers of at most so many bytes, their edges among them.
func samples(width int) []uint64 {
	l := []uint64{0, 1, 127, 128, 254, 255, greatest(width) - 1, greatest(width), greatest(width)/2 + 1, 0x8877665544332211 & greatest(width)}
	for i := range 8 * width {
		l = append(l, 1<<i, greatest(width)^1<<i)
	}
	return l
}

func TestPutExample(t *testing.T) {
	if b, e := Put(nil, 2, 258); e != api.OK || !bytes.Equal(b, []byte{2, 1}) {
		t.Error(b, e)
	}
}

func TestPutNumbers(t *testing.T) {
	for _, w := range widths {
		for _, n := range samples(w) {
			if b, e := Put(nil, w, n); e != api.OK || !bytes.Equal(b, littleEnd(w, n)) {
				t.Error(w, n, b, e)
			}
		}
	}
}

func TestPutManyBehindBytes(t *testing.T) {
	for _, head := range [][]byte{nil, {}, {0}, []byte("head"), bytes.Repeat([]byte{255}, 300)} {
		for _, w := range widths {
			l := samples(w)
			want := slices.Clone(head)
			for _, n := range l {
				want = append(want, littleEnd(w, n)...)
			}
			if b, e := Put(head, w, l...); e != api.OK || !bytes.Equal(b, want) {
				t.Error(len(head), w, b, e)
			}
		}
	}
}

func TestPutNoNumbers(t *testing.T) {
	for _, w := range widths {
		for _, l := range [][]uint64{nil, {}} {
			if b, e := Put([]byte("ab"), w, l...); e != api.OK || string(b) != "ab" {
				t.Error(w, b, e)
			}
			if b, e := Put(nil, w, l...); e != api.OK || len(b) != 0 {
				t.Error(w, b, e)
			}
		}
	}
}

func TestPutTooWide(t *testing.T) {
	for _, w := range []int{1, 2, 4} {
		over := greatest(w) + 1
		for _, l := range [][]uint64{{over}, {over, 0}, {0, 1, over}, {0, over, 0}, {math.MaxUint64}, {1 << 63}, {over << 1}} {
			if b, e := Put([]byte("ab"), w, l...); e != api.ErrWide || len(b) != 0 {
				t.Error(w, l, b, e)
			}
		}
	}
}

func TestPutWrongWidth(t *testing.T) {
	for _, w := range wrongWidths {
		for _, l := range [][]uint64{nil, {0}, {1, 2}, {math.MaxUint64}} {
			if b, e := Put([]byte("ab"), w, l...); e != api.ErrWide || len(b) != 0 {
				t.Error(w, l, b, e)
			}
		}
	}
}

func TestPutLeavesArguments(t *testing.T) {
	for _, last := range []uint64{3, 256} { // 256: the call that answers an error, too
		room := []byte("abXXXXXXXXXXXXXX")
		l := []uint64{1, 2, last, 7}
		Put(room[:2], 1, l[:3]...)
		if string(room) != "abXXXXXXXXXXXXXX" || !slices.Equal(l, []uint64{1, 2, last, 7}) {
			t.Error(last, room, l)
		}
	}
}

func TestPutAnswersNewMemory(t *testing.T) {
	for _, l := range [][]uint64{nil, {1, 2}} {
		room := []byte("abXXXXXXXXXXXXXX")
		b, e := Put(room[:2], 1, l...)
		again, _ := Put(room[:2], 1, l...)
		want := slices.Clone(b)
		spill(b)
		if e != api.OK || string(room) != "abXXXXXXXXXXXXXX" || !bytes.Equal(again, want) {
			t.Error(l, e, room, again)
		}
		spill(room)
		if !bytes.Equal(again, want) {
			t.Error(l, again)
		}
	}
}

// spill writes over all that a list has, spare room included.
func spill(b []byte) {
	b = b[:cap(b)]
	for i := range b {
		b[i] ^= 0x5a
	}
}

// shows: what a reader tells without taking anything.
func shows(t *testing.T, r *Reader, left int, failed, ended bool) {
	t.Helper()
	if r.Left() != left || r.Failed() != failed || r.Ended() != ended {
		t.Errorf("left %d, failed %v, ended %v; wanted %d, %v, %v", r.Left(), r.Failed(), r.Ended(), left, failed, ended)
	}
}

func TestNew(t *testing.T) {
	shows(t, New(nil), 0, false, true)
	shows(t, New([]byte{}), 0, false, true)
	shows(t, New([]byte{7}), 1, false, false)
	shows(t, New(make([]byte, 1000)), 1000, false, false)
}

func TestNumOfPut(t *testing.T) {
	for _, w := range widths {
		l := samples(w)
		b, _ := Put(nil, w, l...)
		r := New(b)
		for i, n := range l {
			shows(t, r, w*(len(l)-i), false, false)
			if got := r.Num(w); got != n {
				t.Error(w, n, got)
			}
		}
		shows(t, r, 0, false, true)
	}
}

func TestNumMixedWithTake(t *testing.T) {
	r := New([]byte{1, 2, 3, 4, 5, 6, 7, 8, 9, 10, 11, 12, 13, 14, 15, 16, 17})
	if n := r.Num(1); n != 1 {
		t.Error(n)
	}
	if n := r.Num(2); n != 0x0302 {
		t.Error(n)
	}
	if b := r.Take(2); !bytes.Equal(b, []byte{4, 5}) {
		t.Error(b)
	}
	if n := r.Num(4); n != 0x09080706 {
		t.Error(n)
	}
	if n := r.Num(8); n != 0x11100f0e0d0c0b0a {
		t.Error(n)
	}
	shows(t, r, 0, false, true)
}

func TestTakePieces(t *testing.T) {
	whole := []byte("abcdefghij")
	for first := range len(whole) + 1 {
		r := New(whole)
		a := r.Take(first)
		shows(t, r, len(whole)-first, false, first == len(whole))
		b := r.Take(len(whole) - first)
		if !bytes.Equal(a, whole[:first]) || !bytes.Equal(b, whole[first:]) {
			t.Error(first, a, b)
		}
		shows(t, r, 0, false, true)
	}
}

func TestTakeNothing(t *testing.T) {
	r := New([]byte{1})
	for _, left := range []int{1, 0} {
		if b := r.Take(0); len(b) != 0 {
			t.Error(b)
		}
		shows(t, r, left, false, left == 0)
		if left == 1 {
			r.Take(1)
		}
	}
}

// staysFailed: a reader that has failed takes nothing, whatever is asked, and says the same ever after.
func staysFailed(t *testing.T, r *Reader, left int) {
	t.Helper()
	shows(t, r, left, true, false)
	for _, n := range []int{0, 1, 2, 4, 8, 3, -1, left, math.MaxInt, math.MinInt} {
		if b := r.Take(n); len(b) != 0 {
			t.Error(n, b)
		}
		if x := r.Num(n); x != 0 {
			t.Error(n, x)
		}
	}
	shows(t, r, left, true, false)
}

func TestTakeFails(t *testing.T) {
	for _, size := range []int{0, 1, 20} {
		for _, taken := range []int{0, size / 2, size} {
			left := size - taken
			for _, n := range []int{-1, -2, math.MinInt, math.MinInt + 1, left + 1, left + 2, 1 << 32, math.MaxInt - taken, math.MaxInt} {
				r := New(bytes.Repeat([]byte{9}, size))
				r.Take(taken)
				if b := r.Take(n); len(b) != 0 {
					t.Error(size, taken, n, b)
				}
				staysFailed(t, r, left)
			}
		}
	}
}

func TestNumFailsForWidth(t *testing.T) {
	for _, w := range wrongWidths {
		for _, size := range []int{0, 2, 300} {
			r := New(bytes.Repeat([]byte{9}, size))
			if n := r.Num(w); n != 0 {
				t.Error(w, size, n)
			}
			staysFailed(t, r, size)
		}
	}
}

func TestNumFailsForWantOfBytes(t *testing.T) {
	for _, w := range widths {
		for left := range w {
			r := New(bytes.Repeat([]byte{9}, left+5))
			r.Take(5)
			if n := r.Num(w); n != 0 {
				t.Error(w, left, n)
			}
			staysFailed(t, r, left)
		}
	}
}

func TestReaderKeepsNoArgument(t *testing.T) {
	room := []byte("abcdXXXX")
	r := New(room[:4])
	if r.Take(2); string(room) != "abcdXXXX" {
		t.Error(room)
	}
	spill(room)
	shows(t, r, 2, false, false)
	if b := r.Take(2); string(b) != "cd" {
		t.Error(b)
	}
}

func TestTakeAnswersNewMemory(t *testing.T) {
	given := []byte("abcdef")
	r := New(given)
	a := r.Take(2)
	spill(a)
	spill(r.Take(0))
	b := r.Take(2)
	spill(a)
	if string(b) != "cd" || string(given) != "abcdef" {
		t.Error(b, given)
	}
	spill(b)
	if c := r.Take(2); string(c) != "ef" {
		t.Error(c)
	}
}

func TestReadersAreApart(t *testing.T) {
	given := []byte{1, 2, 3}
	a, b := New(given), New(given)
	a.Take(2)
	a.Take(2)
	shows(t, a, 1, true, false)
	shows(t, b, 3, false, false)
	if n := b.Num(1); n != 1 {
		t.Error(n)
	}
}

// FuzzPutNum: a number comes back from its bytes, or doesn't fit.
func FuzzPutNum(f *testing.F) {
	f.Add([]byte("x"), 2, uint64(258))
	f.Add([]byte{}, 3, uint64(0))
	f.Add([]byte(nil), 4, uint64(1<<32))
	f.Fuzz(func(t *testing.T, head []byte, width int, n uint64) {
		b, e := Put(head, width, n)
		if !slices.Contains(widths, width) || n > greatest(width) {
			if e != api.ErrWide || len(b) != 0 {
				t.Error(b, e)
			}
			return
		}
		r := New(b)
		if e != api.OK || !bytes.Equal(r.Take(len(head)), head) || r.Num(width) != n || !r.Ended() {
			t.Error(b, e)
		}
	})
}
