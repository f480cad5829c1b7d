package crc

import (
	"bytes"
	"hash/crc32"
	"math"
	"math/bits"
	"slices"
	"testing"
)

// mirrored: the sum by another way, to hold Of against: the library's CRC-32 has the same polynomial, but takes each byte its lowest bit first, and turns all bits at the end.
func mirrored(b []byte) uint32 {
	turned := make([]byte, len(b))
	for i, c := range b {
		turned[i] = bits.Reverse8(c)
	}
	return ^bits.Reverse32(crc32.ChecksumIEEE(turned))
}

// mixed: n bytes without a pattern that a sum could be blind to.
func mixed(n int) []byte {
	b := make([]byte, n)
	x := uint32(n)*2654435761 + 12345
	for i := range b {
		x = x*1664525 + 1013904223
		b[i] = byte(x >> 24)
	}
	return b
}

// samples: bytes of many lengths, none, few and more than a page among them.
func samples() [][]byte {
	l := [][]byte{nil, {}, {0}, {255}, {0, 0, 0, 0}, {255, 255, 255, 255}, []byte("123456789"), []byte("a page"), make([]byte, 256), bytes.Repeat([]byte{255}, 256)}
	for i := range 256 {
		l = append(l, []byte{byte(i)})
	}
	for n := range 70 {
		l = append(l, mixed(n))
	}
	return append(l, mixed(255), mixed(256), mixed(257), mixed(5000))
}

// spill writes over all that a list has, spare room included.
func spill(b []byte) {
	b = b[:cap(b)]
	for i := range b {
		b[i] ^= 0x5a
	}
}

func TestOfExamples(t *testing.T) {
	for _, x := range []struct {
		text string
		sum  uint32
	}{
		{"123456789", 0x0376e6e7},
		{"", 0xffffffff},
		{"\x00", 0x4e08bfb4},
		{"\xff", 0xffffff00},
		{"\xff\xff\xff\xff", 0},
	} {
		if sum := Of([]byte(x.text)); sum != x.sum {
			t.Errorf("%q: %08x, wanted %08x", x.text, sum, x.sum)
		}
	}
}

func TestOfNothing(t *testing.T) {
	for i, parts := range [][][]byte{nil, {}, {nil}, {{}}, {nil, {}, nil}} {
		if sum := Of(parts...); sum != 0xffffffff {
			t.Errorf("%d: %08x", i, sum)
		}
	}
}

func TestOfAgainstLibrary(t *testing.T) {
	for _, b := range samples() {
		if sum := Of(b); sum != mirrored(b) {
			t.Errorf("%d bytes: %08x, wanted %08x", len(b), sum, mirrored(b))
		}
	}
}

// cuts: the bytes cut into parts in different ways, parts without bytes among them.
func cuts(b []byte) [][][]byte {
	single := [][]byte{}
	for i := range b {
		single = append(single, b[i:i+1])
	}
	l := [][][]byte{{b}, single, {nil, b}, {b, {}}, {nil, b, {}, nil}}
	for i := range len(b) + 1 {
		l = append(l, [][]byte{b[:i], b[i:]}, [][]byte{b[:i], nil, b[i:]}, [][]byte{b[:i/2], b[i/2 : i], b[i:]})
	}
	return l
}

func TestPartsAreOneBehindTheOther(t *testing.T) {
	for _, n := range []int{0, 1, 2, 9, 40} {
		whole := mixed(n)
		want := append(slices.Clone(whole), fourBytes(mirrored(whole))...)
		for i, parts := range cuts(whole) {
			if sum := Of(parts...); sum != mirrored(whole) {
				t.Errorf("%d bytes, cut %d: %08x", n, i, sum)
			}
			if b := Seal(parts...); !bytes.Equal(b, want) {
				t.Errorf("%d bytes, cut %d: % x", n, i, b)
			}
		}
	}
}

func TestOrderOfPartsCounts(t *testing.T) {
	a, b := []byte("ab"), []byte("cd")
	if Of(a, b) == Of(b, a) || Of(a, b) != Of([]byte("abcd")) || string(Seal(b, a)[:4]) != "cdab" {
		t.Error(Of(a, b), Of(b, a), Seal(b, a))
	}
}

func fourBytes(sum uint32) []byte {
	return []byte{byte(sum >> 24), byte(sum >> 16), byte(sum >> 8), byte(sum)}
}

func TestSealExamples(t *testing.T) {
	for i, parts := range [][][]byte{nil, {}, {nil}, {{}, nil}} {
		if b := Seal(parts...); !bytes.Equal(b, []byte{255, 255, 255, 255}) {
			t.Error(i, b)
		}
	}
	if b := Seal([]byte("1234"), []byte("56789")); string(b) != "123456789\x03\x76\xe6\xe7" {
		t.Errorf("% x", b)
	}
}

func TestSealIsOpened(t *testing.T) {
	for _, b := range samples() {
		sealed := Seal(b)
		if !bytes.Equal(sealed, append(slices.Clone(b), fourBytes(mirrored(b))...)) {
			t.Errorf("% x", sealed)
		}
		if got, ok := Open(sealed); !ok || !bytes.Equal(got, b) {
			t.Error(len(b), got, ok)
		}
	}
}

func TestSealOfSeal(t *testing.T) {
	once := Seal([]byte("page"))
	got, ok := Open(Seal(once))
	if !ok || !bytes.Equal(got, once) {
		t.Error(got, ok)
	}
}

func TestOpenFewerThanFour(t *testing.T) {
	for _, b := range [][]byte{nil, {}, {255}, {255, 255}, {255, 255, 255}, {0, 0, 0}} {
		if got, ok := Open(b); ok || len(got) != 0 {
			t.Error(b, got, ok)
		}
	}
}

func TestOpenExactlyFour(t *testing.T) {
	if got, ok := Open([]byte{255, 255, 255, 255}); !ok || len(got) != 0 {
		t.Error(got, ok)
	}
	for _, b := range [][]byte{{0, 0, 0, 0}, {255, 255, 255, 254}, {254, 255, 255, 255}, {255, 0, 255, 255}, {255, 255, 127, 255}} {
		if got, ok := Open(b); ok || len(got) != 0 {
			t.Error(b, got, ok)
		}
	}
}

func TestOpenRefusesTheWrongOrder(t *testing.T) {
	b := Seal([]byte("123456789"))
	slices.Reverse(b[9:])
	if got, ok := Open(b); ok || len(got) != 0 {
		t.Error(got, ok)
	}
}

func TestOpenRefusesTooManyAndTooFew(t *testing.T) {
	b := Seal(mixed(20))
	for n := range b {
		if got, ok := Open(b[:n]); ok || len(got) != 0 {
			t.Error(n, got, ok)
		}
	}
	for _, more := range [][]byte{{1}, {255}, {0, 0, 0, 1}, {255, 255, 255, 255}} {
		if got, ok := Open(append(slices.Clone(b), more...)); ok || len(got) != 0 {
			t.Error(more, got, ok)
		}
		if got, ok := Open(append(slices.Clone(more), b...)); ok || len(got) != 0 {
			t.Error(more, got, ok)
		}
	}
}

// The sum of a Seal as a whole is 0, and zeros leave it so: with zeros behind it, it is the Seal of other bytes. Who seals must know the length.
func TestZerosBehindSeal(t *testing.T) {
	b := Seal(mixed(20))
	for n := range 9 {
		longer := append(slices.Clone(b), make([]byte, n)...)
		if got, ok := Open(longer); !ok || !bytes.Equal(got, longer[:20+n]) || !bytes.Equal(Seal(got), longer) {
			t.Error(n, got, ok)
		}
	}
}

func TestOneTurnedByteIsNoSeal(t *testing.T) {
	for _, n := range []int{0, 1, 3, 30, 252} {
		b := Seal(mixed(n))
		for at := range b {
			for mask := 1; mask < 256; mask++ {
				if got, ok := Open(Turn(b, at, byte(mask))); ok || len(got) != 0 {
					t.Error(n, at, mask, got, ok)
				}
			}
		}
	}
}

func TestTwoTurnedNeighboursAreNoSeal(t *testing.T) {
	for _, n := range []int{0, 1, 6} {
		b := Seal(mixed(n))
		for at := range len(b) - 1 {
			for masks := range 1 << 16 {
				first, second := byte(masks), byte(masks>>8)
				if first == 0 || second == 0 {
					continue
				}
				if got, ok := Open(Turn(Turn(b, at, first), at+1, second)); ok || len(got) != 0 {
					t.Fatal(n, at, first, second, got, ok)
				}
			}
		}
	}
}

func TestTurn(t *testing.T) {
	given := []byte{1, 2, 3, 255}
	for at := range given {
		for mask := range 256 {
			want := slices.Clone(given)
			want[at] ^= byte(mask)
			if b := Turn(given, at, byte(mask)); !bytes.Equal(b, want) {
				t.Error(at, mask, b)
			}
		}
	}
}

func TestTurnTwiceIsAsItWas(t *testing.T) {
	given := mixed(9)
	for at := range given {
		if b := Turn(Turn(given, at, 77), at, 77); !bytes.Equal(b, given) {
			t.Error(at, b)
		}
	}
}

func TestTurnWhereThereIsNone(t *testing.T) {
	for n := range 4 {
		given := mixed(n)
		for _, at := range []int{-1, -2, -n, -n - 1, math.MinInt, math.MinInt + 1, n, n + 1, 1 << 32, -1 << 32, math.MaxInt} {
			if n > 0 && at == 0 {
				continue
			}
			if b := Turn(given, at, 255); !bytes.Equal(b, given) {
				t.Error(n, at, b)
			}
		}
	}
	if b := Turn(nil, 0, 255); len(b) != 0 {
		t.Error(b)
	}
}

func TestArgumentsAreLeft(t *testing.T) {
	room := Seal([]byte("abcd"))
	room = append(room, "XXXXXXXX"...)
	want := slices.Clone(room)
	parts := [][]byte{room[:2], room[2:4], room[4:6]}
	Of(parts[:2]...)
	Seal(parts[:2]...)
	Open(room[:8])
	Open(room[:7])
	Turn(room[:4], 1, 255)
	Turn(room[:4], 4, 255)
	if !bytes.Equal(room, want) || len(parts) != 3 || !bytes.Equal(parts[0], want[:2]) || !bytes.Equal(parts[1], want[2:4]) || !bytes.Equal(parts[2], want[4:6]) {
		t.Error(room, parts)
	}
}

func TestAnswersAreNewMemory(t *testing.T) {
	calls := []func([]byte) []byte{
		func(b []byte) []byte { return Seal(b) },
		func(b []byte) []byte { return Seal(b[:2], nil, b[2:]) },
		func(b []byte) []byte { got, _ := Open(b); return got },
		func(b []byte) []byte { return Turn(b, 1, 9) },
		func(b []byte) []byte { return Turn(b, -1, 9) },
	}
	for i, call := range calls {
		room := append(Seal([]byte("abcd")), "XXXXXXXX"...)
		whole := slices.Clone(room)
		first, second := call(room[:8]), call(room[:8])
		want := slices.Clone(second)
		spill(first)
		if !bytes.Equal(room, whole) || !bytes.Equal(second, want) || len(want) == 0 {
			t.Error(i, room, second)
		}
		spill(room)
		if !bytes.Equal(second, want) {
			t.Error(i, second)
		}
	}
}

func TestNothingIsKept(t *testing.T) {
	before := Of([]byte("page"))
	Of(mixed(300))
	Seal(mixed(7))
	Open(mixed(7))
	if Of([]byte("page")) != before {
		t.Error(before)
	}
}

// FuzzSeal: what is sealed is opened; what is opened is a seal, and no other one near it is.
func FuzzSeal(f *testing.F) {
	f.Add([]byte("123456789"), 4, 0, byte(1))
	f.Add([]byte(nil), -1, 3, byte(255))
	f.Add([]byte{255, 255, 255, 255}, 2, -5, byte(0))
	f.Fuzz(func(t *testing.T, b []byte, cut, at int, mask byte) {
		cut = min(max(cut, 0), len(b))
		sealed := Seal(b[:cut], b[cut:])
		if got, ok := Open(sealed); !ok || !bytes.Equal(got, b) || Of(b) != mirrored(b) {
			t.Error(got, ok)
		}
		there := at >= 0 && at < len(sealed) && mask != 0
		if _, ok := Open(Turn(sealed, at, mask)); ok == there {
			t.Error(at, mask, ok)
		}
		if got, ok := Open(b); ok && !bytes.Equal(Seal(got), b) {
			t.Error(got)
		}
	})
}
