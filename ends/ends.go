// Package ends is layer 1: numbers as bytes, the lowest first (see shared/doc/01-ends.md).
package ends

import (
	"slices"

	"understudy/api"
)

// Put answers the bytes b, and behind them each number of l in width bytes, the lowest first; ErrWide and none, if width is no width or a number has more bytes.
func Put(b []byte, width int, l ...uint64) ([]byte, api.Errno) {
	// All are asked ahead of the first byte, so that an error leaves nothing half laid.
	if !isWidth(width) || !allFit(width, l) {
		return nil, api.ErrWide
	}
	// b may have spare room that belongs to who calls: nothing is appended to b itself.
	out := make([]byte, 0, len(b)+width*len(l))
	out = append(out, b...)
	for _, n := range l {
		for range width {
			out = append(out, byte(n))
			n >>= 8
		}
	}
	return out, api.OK
}

func isWidth(width int) bool {
	switch width {
	case 1, 2, 4, 8:
		return true
	}
	return false
}

func allFit(width int, l []uint64) bool {
	for _, n := range l {
		// A shift by 64 leaves 0: in eight bytes every number fits.
		if n>>(8*width) != 0 {
			return false
		}
	}
	return true
}

// Reader takes numbers and bytes from the front of its bytes. Once it has failed, it takes nothing any more.
type Reader struct {
	bytes  []byte
	taken  int
	failed bool
}

// New answers a reader of a copy of b, of which nothing was taken.
func New(b []byte) *Reader {
	return &Reader{bytes: copied(b)}
}

// copied gives memory of its own, since what is handed in may be written over later, and so may what is answered.
func copied(b []byte) []byte {
	out := make([]byte, len(b))
	copy(out, b)
	return out
}

// Num answers the number of the next width bytes, which are taken; 0, and the reader has failed, if width is no width or Take fails.
func (r *Reader) Num(width int) uint64 {
	if !isWidth(width) {
		r.failed = true
		return 0
	}
	var n uint64
	for _, c := range slices.Backward(r.Take(width)) {
		n = n<<8 | uint64(c)
	}
	return n
}

// Take answers the next n bytes, which are taken; none, and the reader has failed, if it had failed, n is below 0 or fewer are left.
func (r *Reader) Take(n int) []byte {
	if r.failed || n < 0 || n > r.Left() {
		r.failed = true
		return nil
	}
	out := copied(r.bytes[r.taken : r.taken+n])
	r.taken += n
	return out
}

// Left answers how many bytes weren't taken.
func (r *Reader) Left() int {
	return len(r.bytes) - r.taken
}

// Failed tells whether a number or bytes were asked for that weren't there.
func (r *Reader) Failed() bool {
	return r.failed
}

// Ended tells whether all was taken, and nothing beyond it asked for.
func (r *Reader) Ended() bool {
	return r.Left() == 0 && !r.failed
}
