package mask

import (
	"math"
	"math/big"
	"slices"
	"testing"
)

// outside are numbers that are in no set.
var outside = []int{math.MinInt, math.MinInt + 1, math.MinInt32, -1 << 32, -65, -64, -63, -2, -1, 64, 65, 127, 128, 255, 256, 1 << 16, 1 << 32, 1<<32 + 5, math.MaxInt32, math.MaxInt - 1, math.MaxInt}

// someSets are the empty one, the full one, sets of one number and without one, runs, and some that are mixed.
func someSets() []uint64 {
	l := []uint64{0, math.MaxUint64, 10, 23, 0x0123456789abcdef, 0xfedcba9876543210, 0x5555555555555555, 0xaaaaaaaaaaaaaaaa, 0x8000000000000001, 0x00000001ffffffff, 0xffffffff80000000}
	for i := range 64 {
		p := uint64(1) << i
		l = append(l, p, ^p, p-1, ^(p - 1))
	}
	r := uint64(1)
	for range 50 {
		r = r*6364136223846793005 + 1442695040888963407
		l = append(l, r, r>>17)
	}
	return l
}

// members is a set's numbers, told by the library instead of by the program.
func members(m uint64) []int {
	b := new(big.Int).SetUint64(m)
	var l []int
	for i := range 64 {
		if b.Bit(i) == 1 {
			l = append(l, i)
		}
	}
	return l
}

// setOf is the set of numbers, each of which may be in one.
func setOf(l []int) uint64 {
	b := new(big.Int)
	for _, n := range l {
		b.SetBit(b, n, 1)
	}
	return b.Uint64()
}

// slid is what Slide must tell, found number by number. Beyond 63 either way nothing is left.
func slid(m uint64, n int) uint64 {
	if n < -63 || n > 63 {
		return 0
	}
	var l []int
	for _, k := range members(m) {
		if k-n >= 0 && k-n <= 63 {
			l = append(l, k-n)
		}
	}
	return setOf(l)
}

func collect(m uint64) []int {
	var l []int
	for n := range All(m) {
		l = append(l, n)
	}
	return l
}

// P2.1

func TestExamplesOfTheChapter(t *testing.T) {
	if got := Of([]int{1, 3}); got != 10 {
		t.Errorf("Of([1 3]): %d", got)
	}
	if got := Slide(10, 1); got != 5 {
		t.Errorf("Slide(10, 1): %d", got)
	}
	if got := Run(23); got != 3 {
		t.Errorf("Run(23): %d", got)
	}
}

func TestHasWithWithout(t *testing.T) {
	for _, m := range someSets() {
		there := members(m)
		for n := range 64 {
			in := slices.Contains(there, n)
			if got := Has(m, n); got != in {
				t.Fatalf("Has(%#x, %d): %v", m, n, got)
			}
			with := setOf(append(slices.Clone(there), n))
			if got := With(m, n); got != with {
				t.Fatalf("With(%#x, %d): %#x, want %#x", m, n, got, with)
			}
			without := setOf(slices.DeleteFunc(slices.Clone(there), func(k int) bool { return k == n }))
			if got := Without(m, n); got != without {
				t.Fatalf("Without(%#x, %d): %#x, want %#x", m, n, got, without)
			}
		}
	}
}

func TestHasWithWithoutAtTheEnds(t *testing.T) {
	for _, c := range []struct {
		m             uint64
		n             int
		has           bool
		with, without uint64
	}{
		{0, 0, false, 1, 0},
		{0, 63, false, 1 << 63, 0},
		{1, 0, true, 1, 0},
		{1 << 63, 63, true, 1 << 63, 0},
		{1 << 63, 0, false, 1<<63 + 1, 1 << 63},
		{math.MaxUint64, 0, true, math.MaxUint64, math.MaxUint64 - 1},
		{math.MaxUint64, 63, true, math.MaxUint64, math.MaxInt64},
		{10, 1, true, 10, 8},
		{10, 2, false, 14, 10},
	} {
		if got := Has(c.m, c.n); got != c.has {
			t.Errorf("Has(%#x, %d): %v", c.m, c.n, got)
		}
		if got := With(c.m, c.n); got != c.with {
			t.Errorf("With(%#x, %d): %#x, want %#x", c.m, c.n, got, c.with)
		}
		if got := Without(c.m, c.n); got != c.without {
			t.Errorf("Without(%#x, %d): %#x, want %#x", c.m, c.n, got, c.without)
		}
	}
}

func TestNumbersOutsideAreInNoSet(t *testing.T) {
	for _, m := range someSets() {
		for _, n := range outside {
			if Has(m, n) {
				t.Fatalf("Has(%#x, %d): true", m, n)
			}
			if got := With(m, n); got != m {
				t.Fatalf("With(%#x, %d): %#x", m, n, got)
			}
			if got := Without(m, n); got != m {
				t.Fatalf("Without(%#x, %d): %#x", m, n, got)
			}
		}
	}
}

func TestSize(t *testing.T) {
	for _, c := range []struct {
		m    uint64
		want int
	}{{0, 0}, {1, 1}, {1 << 63, 1}, {10, 2}, {23, 4}, {math.MaxInt64, 63}, {math.MaxUint64, 64}} {
		if got := Size(c.m); got != c.want {
			t.Errorf("Size(%#x): %d, want %d", c.m, got, c.want)
		}
	}
	for _, m := range someSets() {
		if got, want := Size(m), len(members(m)); got != want {
			t.Errorf("Size(%#x): %d, want %d", m, got, want)
		}
	}
}

func TestAllTellsThemRising(t *testing.T) {
	for _, m := range someSets() {
		if got, want := collect(m), members(m); !slices.Equal(got, want) {
			t.Errorf("All(%#x): %v, want %v", m, got, want)
		}
	}
}

func TestAllOfTheEmptySetTellsNothing(t *testing.T) {
	for n := range All(0) {
		t.Errorf("All(0) told %d", n)
	}
}

func TestAllLeftInTheMiddle(t *testing.T) {
	for _, m := range someSets() {
		want := members(m)
		all := All(m)
		for stop := range len(want) {
			var got []int
			for n := range all {
				got = append(got, n)
				if len(got) == stop+1 {
					break
				}
			}
			if !slices.Equal(got, want[:stop+1]) {
				t.Fatalf("All(%#x) left behind %d: %v", m, stop+1, got)
			}
		}
		// It was left many times, and yet begins anew.
		for range 2 {
			if got := slices.Collect(all); !slices.Equal(got, want) {
				t.Fatalf("All(%#x) gone over again: %v, want %v", m, got, want)
			}
		}
	}
}

func TestAllAsksNoMoreOnceItIsLeft(t *testing.T) {
	asked := 0
	All(math.MaxUint64)(func(int) bool { asked++; return asked < 5 })
	if asked != 5 {
		t.Errorf("it told %d numbers, and was left at the fifth", asked)
	}
}

func TestAllNested(t *testing.T) {
	all := All(0x8000000000000105)
	want := []int{0, 2, 8, 63}
	var pairs, wanted [][2]int
	for a := range all {
		for b := range all {
			pairs = append(pairs, [2]int{a, b})
		}
	}
	for _, a := range want {
		for _, b := range want {
			wanted = append(wanted, [2]int{a, b})
		}
	}
	if !slices.Equal(pairs, wanted) {
		t.Errorf("nested: %v, want %v", pairs, wanted)
	}
}

func TestAllIsAsItWasAskedFor(t *testing.T) {
	m := uint64(10)
	all := All(m)
	m = With(m, 0)
	if got := slices.Collect(all); !slices.Equal(got, []int{1, 3}) || m != 11 {
		t.Errorf("All(10): %v", got)
	}
}

func TestOf(t *testing.T) {
	for _, c := range []struct {
		l    []int
		want uint64
	}{
		{nil, 0},
		{[]int{}, 0},
		{[]int{0}, 1},
		{[]int{63}, 1 << 63},
		{[]int{1, 3}, 10},
		{[]int{3, 1}, 10},
		{[]int{3, 3}, 8},
		{[]int{3, 1, 3, 1, 3}, 10},
		{[]int{0, 63, 0}, 1<<63 + 1},
		{[]int{-1}, 0},
		{[]int{64}, 0},
		{[]int{-1, 1, 64, 3, math.MinInt, math.MaxInt}, 10},
		{[]int{1, -1, -1, 64, 64}, 2},
	} {
		if got := Of(c.l); got != c.want {
			t.Errorf("Of(%v): %#x, want %#x", c.l, got, c.want)
		}
	}
	if got := Of(outside); got != 0 {
		t.Errorf("Of numbers that are in no set: %#x", got)
	}
	for _, m := range someSets() {
		l := members(m)
		slices.Reverse(l)
		if got := Of(slices.Concat(outside, l, outside, l)); got != m {
			t.Errorf("Of, falling, twice, with others between: %#x, want %#x", got, m)
		}
	}
}

func TestOfLeavesWhatItIsGiven(t *testing.T) {
	room := []int{5, -1, 64, 5, 1, 0, 63, math.MinInt, math.MaxInt, 7, 8, 9}
	was := slices.Clone(room)
	if got, want := Of(room[:7]), setOf([]int{0, 1, 5, 63}); got != want {
		t.Errorf("Of(%v): %#x, want %#x", room[:7], got, want)
	}
	if !slices.Equal(room, was) {
		t.Errorf("Of changed what it was given: %v", room)
	}
}

func TestBelow(t *testing.T) {
	for _, c := range []struct {
		n    int
		want uint64
	}{
		{math.MinInt, 0}, {math.MinInt + 1, 0}, {math.MinInt32, 0}, {-65, 0}, {-64, 0}, {-63, 0}, {-1, 0}, {0, 0},
		{1, 1}, {2, 3}, {3, 7}, {62, 1<<62 - 1}, {63, 1<<63 - 1}, {64, math.MaxUint64},
		{65, math.MaxUint64}, {128, math.MaxUint64}, {256, math.MaxUint64}, {1 << 32, math.MaxUint64}, {math.MaxInt - 1, math.MaxUint64}, {math.MaxInt, math.MaxUint64},
	} {
		if got := Below(c.n); got != c.want {
			t.Errorf("Below(%d): %#x, want %#x", c.n, got, c.want)
		}
	}
	for n := range 65 {
		var l []int
		for k := range n {
			l = append(l, k)
		}
		if got, want := Below(n), setOf(l); got != want {
			t.Errorf("Below(%d): %#x, want %#x", n, got, want)
		}
	}
}

// P2.2

func TestSlideExamples(t *testing.T) {
	for _, c := range []struct {
		m    uint64
		n    int
		want uint64
	}{
		{10, 0, 10},
		{10, 1, 5},
		{10, 2, 2},
		{10, 3, 1},
		{10, 4, 0},
		{10, -1, 20},
		{5, -2, 20},
		{1 << 63, 63, 1},
		{1, -63, 1 << 63},
		{math.MaxUint64, 63, 1},
		{math.MaxUint64, -63, 1 << 63},
		{math.MaxUint64, 1, math.MaxInt64},
		{math.MaxUint64, -1, math.MaxUint64 - 1},
		{3, -63, 1 << 63},
		{math.MaxUint64, 0, math.MaxUint64},
		{math.MaxUint64, 64, 0},
		{math.MaxUint64, -64, 0},
		{math.MaxUint64, 65, 0},
		{math.MaxUint64, -65, 0},
		{math.MaxUint64, 1 << 32, 0},
		{math.MaxUint64, -1 << 32, 0},
		{math.MaxUint64, math.MaxInt, 0},
		{math.MaxUint64, math.MinInt, 0},
		{math.MaxUint64, math.MinInt + 1, 0},
	} {
		if got := Slide(c.m, c.n); got != c.want {
			t.Errorf("Slide(%#x, %d): %#x, want %#x", c.m, c.n, got, c.want)
		}
	}
}

func TestSlideNumberByNumber(t *testing.T) {
	for _, m := range someSets() {
		for n := -70; n <= 70; n++ {
			if got, want := Slide(m, n), slid(m, n); got != want {
				t.Fatalf("Slide(%#x, %d): %#x, want %#x", m, n, got, want)
			}
		}
		for _, n := range outside {
			if got, want := Slide(m, n), slid(m, n); got != want {
				t.Fatalf("Slide(%#x, %d): %#x, want %#x", m, n, got, want)
			}
		}
	}
}

func TestRun(t *testing.T) {
	for _, c := range []struct {
		m    uint64
		want int
	}{
		{0, 0}, {1, 1}, {2, 0}, {3, 2}, {5, 1}, {10, 0}, {23, 3}, {1 << 63, 0}, {1<<63 + 1, 1},
		{math.MaxInt64, 63}, {math.MaxUint64, 64}, {math.MaxUint64 - 1, 0}, {math.MaxUint64 - 2, 1}, {math.MaxUint64 &^ (1 << 62), 62},
	} {
		if got := Run(c.m); got != c.want {
			t.Errorf("Run(%#x): %d, want %d", c.m, got, c.want)
		}
	}
	for _, m := range someSets() {
		want := 0
		for want < 64 && slices.Contains(members(m), want) {
			want++
		}
		if got := Run(m); got != want {
			t.Errorf("Run(%#x): %d, want %d", m, got, want)
		}
	}
}

// P2.3

func TestOfUndoesAll(t *testing.T) {
	for _, m := range someSets() {
		if got := Of(slices.Collect(All(m))); got != m {
			t.Errorf("Of(All(%#x)): %#x", m, got)
		}
	}
}

func TestSlideThereAndBackLeavesWhatDidNotFallOff(t *testing.T) {
	for _, m := range someSets() {
		for n := -80; n <= 80; n++ {
			var l []int
			for _, k := range members(m) {
				if k-n >= 0 && k-n <= 63 {
					l = append(l, k)
				}
			}
			if got, want := Slide(Slide(m, n), -n), setOf(l); got != want {
				t.Fatalf("Slide(%#x, %d) and back: %#x, want %#x", m, n, got, want)
			}
		}
	}
}

// P1, R4: no arguments make a call panic, and the same ones have the same answer.

func TestAllArguments(t *testing.T) {
	numbers := slices.Clone(outside)
	for n := range 64 {
		numbers = append(numbers, n)
	}
	for _, m := range someSets() {
		for _, n := range numbers {
			if Has(m, n) != Has(m, n) || With(m, n) != With(m, n) || Without(m, n) != Without(m, n) || Slide(m, n) != Slide(m, n) || Below(n) != Below(n) {
				t.Fatalf("two answers for %#x and %d", m, n)
			}
		}
		if Run(m) != Run(m) || Size(m) != Size(m) || !slices.Equal(collect(m), collect(m)) {
			t.Fatalf("two answers for %#x", m)
		}
	}
}
