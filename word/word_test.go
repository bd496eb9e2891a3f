package word

import (
	"bytes"
	"encoding/binary"
	"math"
	"math/big"
	"slices"
	"testing"
)

// goodWidths stand here once more, so that a change of the program's own is seen.
var goodWidths = []int{1, 2, 4, 8}

var badWidths = []int{math.MinInt, math.MinInt32, -8, -2, -1, 0, 3, 5, 6, 7, 9, 10, 16, 32, 64, 255, 256, 257, 260, 1 << 16, 1<<32 + 1, 1<<32 + 8, math.MaxInt32, math.MaxInt}

// someNumbers are powers of two with their neighbours, both ends, and some with all bytes different.
func someNumbers() []uint64 {
	l := []uint64{0, math.MaxUint64, 0x0123456789abcdef, 0xfedcba9876543210, 0x8182838485868788, 0x00ff00ff00ff00ff}
	for i := range 64 {
		p := uint64(1) << i
		l = append(l, p-1, p, p+1, ^p)
	}
	return l
}

// someSteps are numbers with a sign, likewise.
func someSteps() []int {
	l := []int{math.MinInt, math.MinInt + 1, math.MaxInt, math.MaxInt - 1}
	for i := range 62 {
		p := 1 << i
		l = append(l, p-1, p, p+1, -p-1, -p, 1-p)
	}
	return l
}

// wide is a number's lowest bytes, told by the library instead of by the program.
func wide(v uint64, width int) []byte {
	return binary.BigEndian.AppendUint64(nil, v)[8-width:]
}

// modulus is how many numbers of a width there are.
func modulus(width int) *big.Int {
	return new(big.Int).Lsh(big.NewInt(1), uint(8*width))
}

// P1.1

func TestGood(t *testing.T) {
	for _, w := range goodWidths {
		if !Good(w) {
			t.Errorf("Good(%d): false", w)
		}
	}
	for _, w := range badWidths {
		if Good(w) {
			t.Errorf("Good(%d): true", w)
		}
	}
	for w := -300; w <= 300; w++ {
		if want := slices.Contains(goodWidths, w); Good(w) != want {
			t.Errorf("Good(%d): %v", w, !want)
		}
	}
}

func TestPutExamples(t *testing.T) {
	for _, c := range []struct {
		b     []byte
		width int
		v     uint64
		want  []byte
	}{
		{nil, 2, 258, []byte{1, 2}},
		{[]byte{}, 2, 258, []byte{1, 2}},
		{[]byte{9}, 2, 258, []byte{9, 1, 2}},
		{nil, 1, 0, []byte{0}},
		{nil, 1, 255, []byte{255}},
		{nil, 1, 256, []byte{0}},
		{nil, 1, 258, []byte{2}},
		{nil, 2, 65535, []byte{255, 255}},
		{nil, 2, 65536, []byte{0, 0}},
		{nil, 4, 0x01020304, []byte{1, 2, 3, 4}},
		{nil, 4, 0x0102030405060708, []byte{5, 6, 7, 8}},
		{nil, 8, 0x0102030405060708, []byte{1, 2, 3, 4, 5, 6, 7, 8}},
		{nil, 8, 1, []byte{0, 0, 0, 0, 0, 0, 0, 1}},
		{nil, 8, math.MaxUint64, bytes.Repeat([]byte{255}, 8)},
	} {
		if got := Put(c.b, c.width, c.v); !bytes.Equal(got, c.want) {
			t.Errorf("Put(%v, %d, %d): %v, want %v", c.b, c.width, c.v, got, c.want)
		}
	}
}

func TestPutIsTheLowestBytesHighestFirst(t *testing.T) {
	for _, head := range [][]byte{nil, {}, {7}, {1, 2, 3, 4, 5, 6, 7, 8, 9}} {
		for _, w := range goodWidths {
			for _, v := range someNumbers() {
				want := slices.Concat(head, wide(v, w))
				if got := Put(head, w, v); !bytes.Equal(got, want) {
					t.Fatalf("Put(%v, %d, %#x): %v, want %v", head, w, v, got, want)
				}
			}
		}
	}
}

func TestPutWithNoWidthTellsTheBytes(t *testing.T) {
	for _, w := range badWidths {
		for _, b := range [][]byte{nil, {}, {1}, {3, 2, 1}} {
			if got := Put(b, w, 258); !bytes.Equal(got, b) {
				t.Errorf("Put(%v, %d, 258): %v", b, w, got)
			}
		}
	}
}

func TestPutLeavesWhatItIsGiven(t *testing.T) {
	for _, w := range slices.Concat(badWidths, goodWidths) {
		room := bytes.Repeat([]byte{0xaa}, 32)
		room[0], room[1] = 1, 2
		was := bytes.Clone(room)
		Put(room[:2], w, math.MaxUint64)
		if !bytes.Equal(room, was) {
			t.Errorf("Put with width %d changed what it was given: %v", w, room)
		}
	}
}

func TestPutAnswersNewMemory(t *testing.T) {
	for _, w := range slices.Concat(badWidths, goodWidths) {
		room := bytes.Repeat([]byte{0xaa}, 32)
		was := bytes.Clone(room)
		one, two := Put(room[:2], w, 1), Put(room[:2], w, 1)
		want := bytes.Clone(two)
		for i := range one[:cap(one)] {
			one[:cap(one)][i] = 0x55
		}
		if !bytes.Equal(room, was) {
			t.Errorf("width %d: the answer shares memory with what was given", w)
		}
		for i := range room {
			room[i] = 0x33
		}
		if !bytes.Equal(two, want) {
			t.Errorf("width %d: another answer was changed: %v, want %v", w, two, want)
		}
	}
}

func TestGetExamples(t *testing.T) {
	for _, c := range []struct {
		b     []byte
		width int
		want  uint64
		ok    bool
	}{
		{[]byte{1, 2, 3}, 2, 258, true},
		{[]byte{1, 2}, 2, 258, true},
		{[]byte{1}, 2, 0, false},
		{[]byte{255}, 1, 255, true},
		{[]byte{0}, 1, 0, true},
		{nil, 1, 0, false},
		{[]byte{}, 1, 0, false},
		{[]byte{1, 2, 3, 4, 5}, 4, 0x01020304, true},
		{[]byte{1, 2, 3}, 4, 0, false},
		{[]byte{1, 2, 3, 4, 5, 6, 7, 8, 9}, 8, 0x0102030405060708, true},
		{[]byte{1, 2, 3, 4, 5, 6, 7}, 8, 0, false},
		{bytes.Repeat([]byte{255}, 8), 8, math.MaxUint64, true},
	} {
		if got, ok := Get(c.b, c.width); got != c.want || ok != c.ok {
			t.Errorf("Get(%v, %d): %d %v, want %d %v", c.b, c.width, got, ok, c.want, c.ok)
		}
	}
}

func TestGetOfTooFewBytes(t *testing.T) {
	// There is room behind the end: it must not be looked at.
	room := bytes.Repeat([]byte{0xaa}, 16)
	for _, w := range goodWidths {
		for n := range w {
			if v, ok := Get(room[:n], w); v != 0 || ok {
				t.Errorf("Get of %d bytes, width %d: %d %v", n, w, v, ok)
			}
		}
		for n := w; n <= 16; n++ {
			if v, ok := Get(room[:n], w); v != Cut(0xaaaaaaaaaaaaaaaa, w) || !ok {
				t.Errorf("Get of %d bytes, width %d: %#x %v", n, w, v, ok)
			}
		}
	}
}

func TestGetWithNoWidth(t *testing.T) {
	for _, w := range badWidths {
		for _, b := range [][]byte{nil, {}, {1}, bytes.Repeat([]byte{1}, 300)} {
			if v, ok := Get(b, w); v != 0 || ok {
				t.Errorf("Get of %d bytes, width %d: %d %v", len(b), w, v, ok)
			}
		}
	}
}

func TestGetLeavesWhatItIsGiven(t *testing.T) {
	for _, w := range slices.Concat(badWidths, goodWidths) {
		room := []byte{1, 2, 3, 4, 5, 6, 7, 8, 9, 10, 11, 12}
		was := bytes.Clone(room)
		Get(room[:10], w)
		if !bytes.Equal(room, was) {
			t.Errorf("Get with width %d changed what it was given: %v", w, room)
		}
	}
}

func TestCutAndSignedExamples(t *testing.T) {
	for _, c := range []struct {
		v      uint64
		width  int
		cut    uint64
		signed int64
	}{
		{255, 1, 255, -1},
		{127, 1, 127, 127},
		{128, 1, 128, -128},
		{256, 1, 0, 0},
		{511, 1, 255, -1},
		{32767, 2, 32767, 32767},
		{32768, 2, 32768, -32768},
		{65535, 2, 65535, -1},
		{65536, 2, 0, 0},
		{1<<31 - 1, 4, 1<<31 - 1, math.MaxInt32},
		{1 << 31, 4, 1 << 31, math.MinInt32},
		{1<<32 - 1, 4, 1<<32 - 1, -1},
		{1 << 32, 4, 0, 0},
		{1<<63 - 1, 8, 1<<63 - 1, math.MaxInt64},
		{1 << 63, 8, 1 << 63, math.MinInt64},
		{math.MaxUint64, 8, math.MaxUint64, -1},
	} {
		if got := Cut(c.v, c.width); got != c.cut {
			t.Errorf("Cut(%d, %d): %d, want %d", c.v, c.width, got, c.cut)
		}
		if got := Signed(c.v, c.width); got != c.signed {
			t.Errorf("Signed(%d, %d): %d, want %d", c.v, c.width, got, c.signed)
		}
	}
}

func TestCutAndSignedAreRemainders(t *testing.T) {
	for _, w := range goodWidths {
		m := modulus(w)
		half := new(big.Int).Rsh(m, 1)
		for _, v := range someNumbers() {
			want := new(big.Int).SetUint64(v)
			want.Mod(want, m)
			if got := new(big.Int).SetUint64(Cut(v, w)); got.Cmp(want) != 0 {
				t.Errorf("Cut(%#x, %d): %v, want %v", v, w, got, want)
			}
			if want.Cmp(half) >= 0 {
				want.Sub(want, m)
			}
			if got := big.NewInt(Signed(v, w)); got.Cmp(want) != 0 {
				t.Errorf("Signed(%#x, %d): %v, want %v", v, w, got, want)
			}
		}
	}
}

func TestCutAndSignedWithNoWidth(t *testing.T) {
	for _, w := range badWidths {
		for _, v := range someNumbers() {
			if c, s := Cut(v, w), Signed(v, w); c != 0 || s != 0 {
				t.Fatalf("Cut and Signed of %#x, width %d: %d %d", v, w, c, s)
			}
		}
	}
}

func TestFitsAtTheEnds(t *testing.T) {
	for _, c := range []struct {
		width int
		lo    int64
		hi    int64
	}{
		{1, math.MinInt8, math.MaxInt8},
		{2, math.MinInt16, math.MaxInt16},
		{4, math.MinInt32, math.MaxInt32},
		{8, math.MinInt64, math.MaxInt64},
	} {
		for _, n := range []int64{c.lo, c.lo + 1, -1, 0, 1, c.hi - 1, c.hi} {
			if !Fits(n, c.width) {
				t.Errorf("Fits(%d, %d): false", n, c.width)
			}
		}
		if c.width == 8 {
			continue
		}
		for _, n := range []int64{math.MinInt64, 2 * c.lo, c.lo - 1, c.hi + 1, 2*c.hi + 1, 2*c.hi + 2, math.MaxInt64} {
			if Fits(n, c.width) {
				t.Errorf("Fits(%d, %d): true", n, c.width)
			}
		}
	}
}

func TestFitsIsWhatSignedLeaves(t *testing.T) {
	for _, w := range goodWidths {
		for _, v := range someNumbers() {
			n := int64(v)
			if got, want := Fits(n, w), Signed(v, w) == n; got != want {
				t.Errorf("Fits(%d, %d): %v", n, w, got)
			}
		}
	}
}

func TestFitsWithNoWidth(t *testing.T) {
	for _, w := range badWidths {
		for _, n := range []int64{math.MinInt64, -1, 0, 1, math.MaxInt64} {
			if Fits(n, w) {
				t.Errorf("Fits(%d, %d): true", n, w)
			}
		}
	}
}

// P1.2

// circle is some places on it, its ends and its middle among them.
var circle = []uint16{0, 1, 2, 255, 256, 257, 32766, 32767, 32768, 32769, 40000, 65533, 65534, 65535}

// farOf is what Far must tell, found by ints alone.
func farOf(a, b uint16) int {
	d := int(b) - int(a)
	if d > 32767 {
		return d - 65536
	}
	if d < -32768 {
		return d + 65536
	}
	return d
}

func TestFarExamples(t *testing.T) {
	for _, c := range []struct {
		a, b uint16
		far  int
		less bool
	}{
		{65535, 1, 2, true},
		{1, 65535, -2, false},
		{0, 0, 0, false},
		{65535, 65535, 0, false},
		{5, 6, 1, true},
		{6, 5, -1, false},
		{65535, 0, 1, true},
		{0, 65535, -1, false},
		{0, 32767, 32767, true},
		{32767, 0, -32767, false},
		{0, 32768, -32768, false},
		{32768, 0, -32768, false},
		{0, 32769, -32767, false},
		{32769, 0, 32767, true},
		{40000, 7231, 32767, true},
		{40000, 7232, -32768, false},
		{7232, 40000, -32768, false},
	} {
		if got := Far(c.a, c.b); got != c.far {
			t.Errorf("Far(%d, %d): %d, want %d", c.a, c.b, got, c.far)
		}
		if got := Less(c.a, c.b); got != c.less {
			t.Errorf("Less(%d, %d): %v", c.a, c.b, got)
		}
	}
}

func TestFarAndLessAllAround(t *testing.T) {
	for _, a := range circle {
		for i := range 65536 {
			b := uint16(i)
			want := farOf(a, b)
			if got := Far(a, b); got != want {
				t.Fatalf("Far(%d, %d): %d, want %d", a, b, got, want)
			}
			if got := Less(a, b); got != (want > 0) {
				t.Fatalf("Less(%d, %d): %v", a, b, got)
			}
		}
	}
}

func TestMoveExamples(t *testing.T) {
	for _, c := range []struct {
		a    uint16
		n    int
		want uint16
	}{
		{5, 0, 5},
		{5, 1, 6},
		{5, -5, 0},
		{5, -6, 65535},
		{65535, 1, 0},
		{65535, 2, 1},
		{0, -1, 65535},
		{0, 32767, 32767},
		{0, -32768, 32768},
		{0, 32768, 32768},
		{7, 65535, 6},
		{7, 65536, 7},
		{7, -65536, 7},
		{7, 3*65536 + 1, 8},
		{7, -3*65536 - 8, 65535},
		{7, math.MaxInt, 6},
		{7, math.MinInt, 7},
	} {
		if got := Move(c.a, c.n); got != c.want {
			t.Errorf("Move(%d, %d): %d, want %d", c.a, c.n, got, c.want)
		}
	}
}

func TestMoveIsARemainder(t *testing.T) {
	for _, a := range circle {
		for _, n := range someSteps() {
			sum := new(big.Int).Add(big.NewInt(int64(a)), big.NewInt(int64(n)))
			want := sum.Mod(sum, modulus(2)).Uint64()
			if got := Move(a, n); uint64(got) != want {
				t.Fatalf("Move(%d, %d): %d, want %d", a, n, got, want)
			}
		}
	}
}

// P1.3

func TestGetUndoesPutOfWhatIsCut(t *testing.T) {
	for _, w := range goodWidths {
		for _, v := range someNumbers() {
			c := Cut(v, w)
			for _, from := range []uint64{v, c} {
				if got, ok := Get(Put(nil, w, from), w); got != c || !ok {
					t.Fatalf("width %d: Get of Put of %#x: %#x %v, want %#x", w, from, got, ok, c)
				}
			}
			b := Put([]byte{9, 8, 7}, w, c)
			if got, ok := Get(b[3:], w); got != c || !ok {
				t.Fatalf("width %d: Get of Put of %#x behind others: %#x %v", w, c, got, ok)
			}
		}
	}
}

func TestMoveByFarLeadsThere(t *testing.T) {
	for _, a := range circle {
		for i := range 65536 {
			b := uint16(i)
			if got := Move(a, Far(a, b)); got != b {
				t.Fatalf("Move(%d, Far(%d, %d)): %d", a, a, b, got)
			}
		}
	}
}

// P1, R4: no arguments make a call panic, and the same ones have the same answer.

func TestAllArguments(t *testing.T) {
	lists := [][]byte{nil, {}, {1}, {1, 2, 3, 4, 5, 6, 7}, {1, 2, 3, 4, 5, 6, 7, 8}, bytes.Repeat([]byte{255}, 300)}
	for _, w := range slices.Concat(badWidths, goodWidths) {
		for _, v := range someNumbers() {
			for _, b := range lists {
				if !bytes.Equal(Put(b, w, v), Put(b, w, v)) {
					t.Fatalf("Put(%v, %d, %d) has two answers", b, w, v)
				}
				Get(b, w)
			}
			Cut(v, w)
			Signed(v, w)
			Fits(int64(v), w)
		}
	}
}
