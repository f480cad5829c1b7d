package label

import (
	"bytes"
	"encoding/binary"
	"fmt"
	"math"
	"math/rand"
	"slices"
	"strings"
	"testing"

	"understudy/api"
)

// numbers: the edges of an epoch or a number, right and wrong ones.
var numbers = []uint32{0, 1, 2, 9, 10, 255, 256, 99999, 100000, 1048575, 1048576, 1048577, 2097152, math.MaxInt32, math.MaxInt32 + 1, math.MaxUint32 - 1, math.MaxUint32}

var none = api.Label{}

// of: a label in fewer words.
func of(epoch, seq uint32) api.Label { return api.Label{Epoch: epoch, Seq: seq} }

// every: each label of two of those numbers.
func every() []api.Label {
	var l []api.Label
	for _, e := range numbers {
		for _, q := range numbers {
			l = append(l, of(e, q))
		}
	}
	return l
}

// rank: a label as one number, to hold Compare against.
func rank(l api.Label) uint64 { return uint64(l.Epoch)<<32 | uint64(l.Seq) }

func sign(a, b uint64) int {
	if a < b {
		return -1
	}
	if a > b {
		return 1
	}
	return 0
}

func TestLimits(t *testing.T) {
	if api.MaxEpoch != 1<<20 || api.MaxSeq != 1<<20 {
		t.Error(api.MaxEpoch, api.MaxSeq)
	}
}

func TestRight(t *testing.T) {
	for _, c := range []struct {
		l  api.Label
		ok bool
	}{
		{none, true}, {of(2, 5), true}, {of(0, 1048576), true}, {of(1048576, 0), true}, {of(1048576, 1048576), true}, {of(1048575, 1048575), true},
		{of(1048577, 0), false}, {of(0, 1048577), false}, {of(1048577, 1048577), false}, {of(math.MaxUint32, 1), false}, {of(1, math.MaxUint32), false},
	} {
		if Right(c.l) != c.ok {
			t.Error(c.l)
		}
	}
	for _, l := range every() {
		if Right(l) != (l.Epoch <= 1<<20 && l.Seq <= 1<<20) {
			t.Error(l)
		}
	}
}

func TestCompare(t *testing.T) {
	for _, c := range []struct {
		a, b api.Label
		want int
	}{
		{none, none, 0}, {of(2, 5), of(2, 5), 0}, {of(2, 5), of(2, 6), -1}, {of(2, 6), of(2, 5), 1},
		{of(2, 5), of(3, 0), -1}, {of(3, 0), of(2, 5), 1}, {of(1, 9), of(2, 0), -1}, {none, of(0, 1), -1}, {of(1, 0), none, 1},
		{of(0, math.MaxUint32), of(math.MaxUint32, 0), -1}, {of(math.MaxUint32, 0), of(0, math.MaxUint32), 1}, {of(math.MaxUint32, math.MaxUint32), none, 1},
	} {
		if o := Compare(c.a, c.b); o != c.want {
			t.Error(c.a, c.b, o)
		}
	}
	for _, a := range every() {
		for _, b := range every() {
			if o := Compare(a, b); o != sign(rank(a), rank(b)) {
				t.Fatal(a, b, o)
			}
		}
	}
}

func TestLast(t *testing.T) {
	for i, c := range []struct {
		l    []api.Label
		want api.Label
	}{
		{nil, none}, {[]api.Label{}, none}, {[]api.Label{none}, none}, {[]api.Label{none, none}, none},
		{[]api.Label{of(2, 5)}, of(2, 5)}, {[]api.Label{of(2, 5), of(2, 5)}, of(2, 5)},
		{[]api.Label{of(1, 9), of(2, 1), of(2, 0)}, of(2, 1)}, {[]api.Label{of(2, 1), of(1, 9), of(2, 0)}, of(2, 1)}, {[]api.Label{of(2, 0), of(1, 9), of(2, 1)}, of(2, 1)},
		{[]api.Label{none, of(0, 1)}, of(0, 1)}, {[]api.Label{of(0, 1), none}, of(0, 1)},
		// Whether a label can be isn't asked here.
		{[]api.Label{of(1048576, 1048576), of(1048577, 0)}, of(1048577, 0)}, {[]api.Label{of(math.MaxUint32, 0), of(0, math.MaxUint32)}, of(math.MaxUint32, 0)},
	} {
		if l := Last(c.l...); l != c.want {
			t.Error(i, l)
		}
	}
	if l := Last(); l != none {
		t.Error(l)
	}
}

func TestLastOfMany(t *testing.T) {
	source := rand.New(rand.NewSource(3))
	all := every()
	for range 300 {
		l := make([]api.Label, 1+source.Intn(20))
		for i := range l {
			l[i] = all[source.Intn(len(all))]
		}
		was := slices.Clone(l)
		if got, want := Last(l...), slices.MaxFunc(l, func(a, b api.Label) int { return sign(rank(a), rank(b)) }); got != want {
			t.Fatal(l, got)
		}
		if !slices.Equal(l, was) {
			t.Fatal("changed", l)
		}
	}
}

func TestNext(t *testing.T) {
	for _, c := range []struct {
		l, want api.Label
		e       api.Errno
	}{
		{of(2, 5), of(2, 6), api.OK}, {none, of(0, 1), api.OK}, {of(7, 0), of(7, 1), api.OK},
		{of(3, 1048575), of(3, 1048576), api.OK}, {of(1048576, 1048575), of(1048576, 1048576), api.OK}, {of(1048576, 0), of(1048576, 1), api.OK},
		{of(3, 1048576), none, api.ErrSeq}, {of(0, 1048576), none, api.ErrSeq}, {of(1048576, 1048576), none, api.ErrSeq},
		{of(3, 1048577), none, api.ErrLabel}, {of(3, math.MaxUint32), none, api.ErrLabel}, {of(1048577, 0), none, api.ErrLabel},
		// Both apply: what can't be is named first.
		{of(1048577, 1048576), none, api.ErrLabel}, {of(math.MaxUint32, math.MaxUint32), none, api.ErrLabel},
	} {
		if l, e := Next(c.l); l != c.want || e != c.e {
			t.Error(c.l, l, e)
		}
	}
}

func TestRise(t *testing.T) {
	for _, c := range []struct {
		l, want api.Label
		e       api.Errno
	}{
		{of(2, 5), of(3, 0), api.OK}, {none, of(1, 0), api.OK}, {of(7, 0), of(8, 0), api.OK}, {of(0, 1048576), of(1, 0), api.OK},
		{of(1048575, 3), of(1048576, 0), api.OK}, {of(1048575, 1048576), of(1048576, 0), api.OK},
		{of(1048576, 3), none, api.ErrEpoch}, {of(1048576, 0), none, api.ErrEpoch}, {of(1048576, 1048576), none, api.ErrEpoch},
		{of(1048577, 0), none, api.ErrLabel}, {of(math.MaxUint32, 0), none, api.ErrLabel}, {of(3, 1048577), none, api.ErrLabel},
		{of(1048576, 1048577), none, api.ErrLabel}, {of(math.MaxUint32, math.MaxUint32), none, api.ErrLabel},
	} {
		if l, e := Rise(c.l); l != c.want || e != c.e {
			t.Error(c.l, l, e)
		}
	}
}

func TestNextAndRiseAtEveryEdge(t *testing.T) {
	for _, l := range every() {
		wantNext, wantRise := api.OK, api.OK
		if l.Seq == 1<<20 {
			wantNext = api.ErrSeq
		}
		if l.Epoch == 1<<20 {
			wantRise = api.ErrEpoch
		}
		if l.Epoch > 1<<20 || l.Seq > 1<<20 {
			wantNext, wantRise = api.ErrLabel, api.ErrLabel
		}
		next, e := Next(l)
		if e != wantNext || e == api.OK && next != of(l.Epoch, l.Seq+1) || e != api.OK && next != none {
			t.Error(l, next, e)
		}
		up, e := Rise(l)
		if e != wantRise || e == api.OK && up != of(l.Epoch+1, 0) || e != api.OK && up != none {
			t.Error(l, up, e)
		}
	}
}

func TestText(t *testing.T) {
	for _, c := range []struct {
		l    api.Label
		want string
	}{
		{none, "0.0"}, {of(2, 5), "2.5"}, {of(10, 100), "10.100"}, {of(1048576, 1048576), "1048576.1048576"},
		{of(1048577, 0), "1048577.0"}, {of(math.MaxInt32+1, math.MaxUint32), "2147483648.4294967295"},
	} {
		if s := Text(c.l); s != c.want {
			t.Error(c.l, s)
		}
	}
	for _, l := range every() {
		if s := Text(l); s != fmt.Sprintf("%d.%d", l.Epoch, l.Seq) {
			t.Error(l, s)
		}
	}
}

func TestParseThereAndBack(t *testing.T) {
	for _, l := range every() {
		got, e := Parse(Text(l))
		if Right(l) && (got != l || e != api.OK) || !Right(l) && (got != none || e != api.ErrLabel) {
			t.Error(l, got, e)
		}
	}
}

func TestParse(t *testing.T) {
	for _, c := range []struct {
		s    string
		want api.Label
	}{
		{"0.0", none}, {"2.5", of(2, 5)}, {"0.7", of(0, 7)}, {"7.0", of(7, 0)}, {"10.20", of(10, 20)}, {"123456.987654", of(123456, 987654)},
		{"1048575.1048575", of(1048575, 1048575)}, {"1048576.1048576", of(1048576, 1048576)},
	} {
		if l, e := Parse(c.s); l != c.want || e != api.OK {
			t.Error(c.s, l, e)
		}
	}
}

// notNumerals: what is no number of a label, in either place.
func notNumerals() []string {
	long := strings.Repeat("9", 5000)
	return []string{
		"", " ", "00", "01", "000", "0001", "-1", "+1", "-0", "+0", "--1", "1-", "1+",
		" 1", "1 ", "1 2", "\t1", "1\n", "\n", "\x00", "1\x00", "\x001", "\u00a01",
		"a", "1a", "a1", "x", "0x1", "0b1", "0o1", "1e3", "1_0", "_1", "1,0", "1'0", "/", ":", "1/", "1:", "½", "NaN", "Inf",
		"١", "1٢", "１", "1１", "𝟏", "²", "1²", "\xff", "1\xff", "\xc0\xb1", "\ufffd", "\xef\xbc",
		"1048577", "1048580", "2097152", "10485760", "4294967295", "4294967296", "4294967297", "18446744073709551615", "18446744073709551616", "18446744073709551617", "36893488147419103233", "340282366920938463463374607431768211457",
		"9223372036854775808", long, "1" + strings.Repeat("0", 300), strings.Repeat("0", 300) + "1", strings.Repeat("0", 5000),
	}
}

func TestParseWrongNumerals(t *testing.T) {
	for _, n := range notNumerals() {
		for _, s := range []string{n + ".1", "1." + n, n + ".0", "0." + n, n + ".1048576", "1048576." + n, n + "." + n} {
			if l, e := Parse(s); l != none || e != api.ErrLabel {
				t.Errorf("%.40q: %v %v", s, l, e)
			}
		}
	}
}

func TestParseWrongPoints(t *testing.T) {
	for _, s := range []string{
		"", ".", "..", "...", "1", "0", "12", "1.", ".1", "1..2", ".1.2", "1.2.", "1.2.3", "..1", "1..", "1.2.3.4", "0.0.0",
		"1,2", "1:2", "1·2", "1．2", "1。2", "1 2", "1 .2", "1. 2", " 1.2", "1.2 ", "1.2\n", "\"1.2\"", "1.2\x00", "v1.2",
	} {
		if l, e := Parse(s); l != none || e != api.ErrLabel {
			t.Errorf("%q: %v %v", s, l, e)
		}
	}
}

// TestParseShortTexts: of all short texts of these signs, those that are right have their own text back, and all texts of small labels are among them.
func TestParseShortTexts(t *testing.T) {
	right := 0
	var grow func(s string)
	grow = func(s string) {
		l, e := Parse(s)
		if e == api.OK && Text(l) != s || e != api.OK && (e != api.ErrLabel || l != none) {
			t.Errorf("%q: %v %v", s, l, e)
		}
		if e == api.OK {
			right++
		}
		if len(s) >= 5 {
			return
		}
		for _, c := range []byte("019.+- a\xff") {
			grow(s + string([]byte{c}))
		}
	}
	grow("")
	// Numerals of these digits: 3 of one sign, 2*3 of two, 2*9 of three; pairs of at most four signs beside the point.
	if want := 3*3 + 2*3*6 + 2*3*18 + 6*6; right != want {
		t.Error(right, want)
	}
}

func TestPut(t *testing.T) {
	for i, c := range []struct {
		b    []byte
		l    []api.Label
		want []byte
	}{
		{nil, nil, nil}, {[]byte{}, []api.Label{}, nil}, {[]byte{7, 8}, nil, []byte{7, 8}}, {[]byte{7}, []api.Label{}, []byte{7}},
		{nil, []api.Label{none}, make([]byte, 8)}, {nil, []api.Label{of(2, 5)}, []byte{2, 0, 0, 0, 5, 0, 0, 0}},
		{[]byte{7}, []api.Label{of(1, 258), none}, []byte{7, 1, 0, 0, 0, 2, 1, 0, 0, 0, 0, 0, 0, 0, 0, 0, 0}},
		{nil, []api.Label{of(1048576, 1048575)}, []byte{0, 0, 16, 0, 255, 255, 15, 0}},
		// Whether a label can be isn't asked here: four bytes hold any.
		{[]byte{1}, []api.Label{of(math.MaxUint32, 0x04030201)}, []byte{1, 255, 255, 255, 255, 1, 2, 3, 4}},
	} {
		if b := Put(c.b, c.l...); !bytes.Equal(b, c.want) {
			t.Error(i, b)
		}
	}
}

func TestPutMany(t *testing.T) {
	l := every()
	want := []byte("head")
	for _, one := range l {
		want = binary.LittleEndian.AppendUint32(want, one.Epoch)
		want = binary.LittleEndian.AppendUint32(want, one.Seq)
	}
	was := slices.Clone(l)
	if b := Put([]byte("head"), l...); !bytes.Equal(b, want) {
		t.Error(b)
	}
	if !slices.Equal(l, was) {
		t.Error("labels changed")
	}
}

func TestPutLeavesWhatIsHandedIn(t *testing.T) {
	room := bytes.Repeat([]byte{9}, 64)
	was := slices.Clone(room)
	for _, n := range []int{0, 1, 5, 64} {
		for _, l := range [][]api.Label{nil, {of(1, 2)}, {of(1, 2), of(3, 4)}} {
			b := Put(room[:n], l...)
			again := Put(room[:n], l...)
			// The answer's spare room is new memory as well.
			whole := b[:cap(b)]
			for i := range whole {
				whole[i] = 77
			}
			if !bytes.Equal(room, was) {
				t.Fatal("bytes changed", n, room)
			}
			if len(again) != n+8*len(l) || slices.Contains(again, 77) {
				t.Fatal("two answers share memory", n, again)
			}
		}
	}
}

func TestPutKeepsNothing(t *testing.T) {
	b, l := []byte{1, 2}, []api.Label{of(3, 4)}
	out := Put(b, l...)
	b[0], l[0] = 99, of(99, 99)
	if !bytes.Equal(out, []byte{1, 2, 3, 0, 0, 0, 4, 0, 0, 0}) {
		t.Error(out)
	}
}
