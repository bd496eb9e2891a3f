package span

import (
	"maps"
	"math"
	"slices"
	"testing"

	"staith/api"
)

const top = math.MaxUint64

// plain is a set of numbers as they are, one by one: what a Set is held against.
type plain map[uint64]int

// add is the promise of Add.
func (p plain) add(n uint64) bool {
	_, there := p[n]
	if n == 0 || there {
		return false
	}
	p[n] = 1
	return true
}

// ranges gathers the numbers that follow one another.
func (p plain) ranges() []api.Range {
	var l []api.Range
	for _, n := range slices.Sorted(maps.Keys(p)) {
		if len(l) > 0 && l[len(l)-1].Hi+1 == n {
			l[len(l)-1].Hi = n
		} else {
			l = append(l, api.Range{Lo: n, Hi: n})
		}
	}
	return l
}

// low counts from 1 on until a number is missing.
func (p plain) low() uint64 {
	for n := uint64(1); ; n++ {
		if _, there := p[n]; !there {
			return n - 1
		}
	}
}

func (p plain) top() uint64 {
	greatest := uint64(0)
	for n := range p {
		greatest = max(greatest, n)
	}
	return greatest
}

// gaps counts the numbers behind a missing one, but 1.
func (p plain) gaps() int {
	count := 0
	for n := range p {
		if _, below := p[n-1]; !below && n != 1 {
			count++
		}
	}
	return count
}

// holding is a set with these numbers, and the plain one.
func holding(numbers ...uint64) (*Set, plain) {
	s, p := New(), plain{}
	for _, n := range numbers {
		s.Add(n)
		p.add(n)
	}
	return s, p
}

// chosen are the numbers of l whose bit is set.
func chosen(l []uint64, bits int) []uint64 {
	var out []uint64
	for i, n := range l {
		if bits>>i&1 == 1 {
			out = append(out, n)
		}
	}
	return out
}

// someNumbers are runs of n numbers: from 1 on, in the midst, up to the greatest.
func someNumbers(n int) [][]uint64 {
	var low, mid, high []uint64
	for i := range uint64(n) {
		low = append(low, 1+i)
		mid = append(mid, 1<<63-3+i)
		high = append(high, top-uint64(n)+1+i)
	}
	return [][]uint64{low, mid, high}
}

// wantPlain holds all that a set tells against a plain one, Has at the numbers asked and beside what is there.
func wantPlain(t *testing.T, what string, s *Set, p plain, asked ...uint64) {
	t.Helper()
	if got, want := s.Ranges(), p.ranges(); !slices.Equal(got, want) {
		t.Fatalf("%s: Ranges: %v, want %v", what, got, want)
	}
	if got, want := s.Low(), p.low(); got != want {
		t.Fatalf("%s: Low of %v: %d, want %d", what, p.ranges(), got, want)
	}
	if got, want := s.Top(), p.top(); got != want {
		t.Fatalf("%s: Top of %v: %d, want %d", what, p.ranges(), got, want)
	}
	if got, want := s.Gaps(), p.gaps(); got != want {
		t.Fatalf("%s: Gaps of %v: %d, want %d", what, p.ranges(), got, want)
	}
	for n := range p {
		wantHas(t, what, s, p, n-1, n, n+1)
	}
	wantHas(t, what, s, p, 0, 1, 2, 3, 1<<32, 1<<63, top-1, top)
	wantHas(t, what, s, p, asked...)
}

func wantHas(t *testing.T, what string, s *Set, p plain, asked ...uint64) {
	t.Helper()
	for _, n := range asked {
		if _, there := p[n]; s.Has(n) != there {
			t.Fatalf("%s: Has(%d) of %v: %v", what, n, p.ranges(), !there)
		}
	}
}

func wantRanges(t *testing.T, what string, s *Set, want ...api.Range) {
	t.Helper()
	if got := s.Ranges(); !slices.Equal(got, want) {
		t.Errorf("%s: Ranges: %v, want %v", what, got, want)
	}
}

// must is From of ranges that are right.
func must(t *testing.T, l ...api.Range) *Set {
	t.Helper()
	s, err := From(l)
	if s == nil || err != api.OK {
		t.Fatalf("From(%v): %v, %v", l, s, err)
	}
	return s
}

// isMade tells by an Add whether a set was made by a call; n is a number that is not there.
func isMade(t *testing.T, what string, s *Set, n uint64) {
	t.Helper()
	if s == nil || !s.Add(n) || !s.Has(n) || s.Add(n) {
		t.Errorf("%s: nothing can be added", what)
	}
}

// unmade are sets that no call made.
func unmade() map[string]*Set {
	return map[string]*Set{"nil": nil, "the zero value": {}}
}

// P4.1

func TestExample(t *testing.T) {
	s := New()
	s.Add(1)
	s.Add(2)
	s.Add(5)
	if s.Low() != 2 || s.Top() != 5 || s.Gaps() != 1 {
		t.Errorf("Low %d, Top %d, Gaps %d; want 2, 5, 1", s.Low(), s.Top(), s.Gaps())
	}
	s.Add(3)
	s.Add(4)
	wantRanges(t, "1 to 5", s, api.Range{Lo: 1, Hi: 5})
}

func TestEmptySet(t *testing.T) {
	s := New()
	wantPlain(t, "empty", s, plain{})
	isMade(t, "empty", s, 1)
	if other := New(); other == s || other.Has(1) {
		t.Error("New told a set that was there")
	}
}

func TestAddAtTheEnds(t *testing.T) {
	for _, order := range [][]uint64{
		{0}, {1}, {top}, {top - 1}, {0, 1}, {1, 0}, {1, 2}, {2, 1}, {top, 0}, {0, top},
		{top - 1, top}, {top, top - 1}, {1, top}, {top, 1}, {1, top - 1}, {2, top - 2},
		{top - 2, top}, {top, top - 2, top - 1}, {top, 1, top - 1, 2}, {1 << 63, 1<<63 - 1, 1<<63 + 1},
	} {
		s, p := New(), plain{}
		for _, n := range slices.Concat(order, order) {
			if got, want := s.Add(n), p.add(n); got != want {
				t.Errorf("%v: Add(%d): %v, want %v", order, n, got, want)
			}
			wantPlain(t, "at the ends", s, p, order...)
		}
	}
}

func TestAddBesideRanges(t *testing.T) {
	for _, c := range []struct {
		what string
		n    uint64
		new  bool
		want []api.Range
	}{
		{"zero", 0, false, []api.Range{{Lo: 4, Hi: 6}, {Lo: 8, Hi: 9}, {Lo: 20, Hi: 20}}},
		{"below all, none touched", 2, true, []api.Range{{Lo: 2, Hi: 2}, {Lo: 4, Hi: 6}, {Lo: 8, Hi: 9}, {Lo: 20, Hi: 20}}},
		{"at the beginning of the first", 3, true, []api.Range{{Lo: 3, Hi: 6}, {Lo: 8, Hi: 9}, {Lo: 20, Hi: 20}}},
		{"the first number of a range", 4, false, []api.Range{{Lo: 4, Hi: 6}, {Lo: 8, Hi: 9}, {Lo: 20, Hi: 20}}},
		{"within a range", 5, false, []api.Range{{Lo: 4, Hi: 6}, {Lo: 8, Hi: 9}, {Lo: 20, Hi: 20}}},
		{"the last number of a range", 6, false, []api.Range{{Lo: 4, Hi: 6}, {Lo: 8, Hi: 9}, {Lo: 20, Hi: 20}}},
		{"between two that it touches", 7, true, []api.Range{{Lo: 4, Hi: 9}, {Lo: 20, Hi: 20}}},
		{"at the end of one", 10, true, []api.Range{{Lo: 4, Hi: 6}, {Lo: 8, Hi: 10}, {Lo: 20, Hi: 20}}},
		{"between two, none touched", 11, true, []api.Range{{Lo: 4, Hi: 6}, {Lo: 8, Hi: 9}, {Lo: 11, Hi: 11}, {Lo: 20, Hi: 20}}},
		{"at the beginning of the last", 19, true, []api.Range{{Lo: 4, Hi: 6}, {Lo: 8, Hi: 9}, {Lo: 19, Hi: 20}}},
		{"the only number of a range", 20, false, []api.Range{{Lo: 4, Hi: 6}, {Lo: 8, Hi: 9}, {Lo: 20, Hi: 20}}},
		{"at the end of the last", 21, true, []api.Range{{Lo: 4, Hi: 6}, {Lo: 8, Hi: 9}, {Lo: 20, Hi: 21}}},
		{"above all, none touched", 22, true, []api.Range{{Lo: 4, Hi: 6}, {Lo: 8, Hi: 9}, {Lo: 20, Hi: 20}, {Lo: 22, Hi: 22}}},
		{"the greatest", top, true, []api.Range{{Lo: 4, Hi: 6}, {Lo: 8, Hi: 9}, {Lo: 20, Hi: 20}, {Lo: top, Hi: top}}},
	} {
		s := must(t, api.Range{Lo: 4, Hi: 6}, api.Range{Lo: 8, Hi: 9}, api.Range{Lo: 20, Hi: 20})
		if got := s.Add(c.n); got != c.new {
			t.Errorf("%s: Add(%d): %v", c.what, c.n, got)
		}
		wantRanges(t, c.what, s, c.want...)
	}
}

func TestAddBesideWideRanges(t *testing.T) {
	all := api.Range{Lo: 1, Hi: top}
	s := must(t, all)
	for _, n := range []uint64{0, 1, 2, 1 << 63, top - 1, top} {
		if s.Add(n) || s.Has(n) != (n > 0) {
			t.Errorf("all numbers: Add(%d) tells true, or Has(%d) is wrong", n, n)
		}
	}
	wantRanges(t, "all numbers", s, all)
	if s.Low() != top || s.Top() != top || s.Gaps() != 0 {
		t.Errorf("all numbers: Low %d, Top %d, Gaps %d", s.Low(), s.Top(), s.Gaps())
	}
	below := must(t, api.Range{Lo: 1, Hi: top - 1})
	above := must(t, api.Range{Lo: 2, Hi: top})
	halves := must(t, api.Range{Lo: 1, Hi: 1<<63 - 1}, api.Range{Lo: 1<<63 + 1, Hi: top})
	if below.Has(top) || above.Has(1) || halves.Has(1<<63) {
		t.Error("a number is there that is missing")
	}
	if !below.Add(top) || !above.Add(1) || !halves.Add(1<<63) {
		t.Error("Add of the only missing number: false")
	}
	for _, s := range []*Set{below, above, halves} {
		wantRanges(t, "the only missing number", s, all)
	}
}

func TestHasAtTheEndsOfRanges(t *testing.T) {
	for _, c := range []struct {
		l      []api.Range
		is, no []uint64
	}{
		{nil, nil, []uint64{0, 1, 2, top - 1, top}},
		{[]api.Range{{Lo: 1, Hi: 1}}, []uint64{1}, []uint64{0, 2, top}},
		{[]api.Range{{Lo: 2, Hi: 4}}, []uint64{2, 3, 4}, []uint64{0, 1, 5, top}},
		{[]api.Range{{Lo: 1, Hi: 3}, {Lo: 5, Hi: 5}, {Lo: 9, Hi: 11}}, []uint64{1, 2, 3, 5, 9, 10, 11}, []uint64{0, 4, 6, 7, 8, 12, top}},
		{[]api.Range{{Lo: top, Hi: top}}, []uint64{top}, []uint64{0, 1, top - 1}},
		{[]api.Range{{Lo: 7, Hi: top - 1}}, []uint64{7, 8, 1 << 63, top - 2, top - 1}, []uint64{0, 1, 6, top}},
		{[]api.Range{{Lo: 1, Hi: 2}, {Lo: top - 1, Hi: top}}, []uint64{1, 2, top - 1, top}, []uint64{0, 3, 1 << 63, top - 2}},
	} {
		s := must(t, c.l...)
		for _, n := range c.is {
			if !s.Has(n) {
				t.Errorf("Has(%d) of %v: false", n, c.l)
			}
		}
		for _, n := range c.no {
			if s.Has(n) {
				t.Errorf("Has(%d) of %v: true", n, c.l)
			}
		}
		wantRanges(t, "only asked", s, c.l...)
	}
}

func TestLowTopGapsAndRanges(t *testing.T) {
	for _, c := range []struct {
		l        []api.Range
		low, top uint64
		gaps     int
	}{
		{nil, 0, 0, 0},
		{[]api.Range{{Lo: 1, Hi: 1}}, 1, 1, 0},
		{[]api.Range{{Lo: 1, Hi: 9}}, 9, 9, 0},
		{[]api.Range{{Lo: 2, Hi: 2}}, 0, 2, 1},
		{[]api.Range{{Lo: 2, Hi: 9}}, 0, 9, 1},
		{[]api.Range{{Lo: 1, Hi: 2}, {Lo: 5, Hi: 5}}, 2, 5, 1},
		{[]api.Range{{Lo: 3, Hi: 4}, {Lo: 6, Hi: 6}}, 0, 6, 2},
		{[]api.Range{{Lo: 1, Hi: 1}, {Lo: 3, Hi: 3}, {Lo: 5, Hi: 8}}, 1, 8, 2},
		{[]api.Range{{Lo: 1, Hi: top}}, top, top, 0},
		{[]api.Range{{Lo: 2, Hi: top}}, 0, top, 1},
		{[]api.Range{{Lo: top, Hi: top}}, 0, top, 1},
		{[]api.Range{{Lo: 1, Hi: top - 2}, {Lo: top, Hi: top}}, top - 2, top, 1},
	} {
		s := must(t, c.l...)
		if s.Low() != c.low || s.Top() != c.top || s.Gaps() != c.gaps {
			t.Errorf("%v: Low %d, Top %d, Gaps %d; want %d, %d, %d", c.l, s.Low(), s.Top(), s.Gaps(), c.low, c.top, c.gaps)
		}
		wantRanges(t, "as given", s, c.l...)
	}
}

// orders calls do with each order of l.
func orders(l []uint64, done int, do func(l []uint64)) {
	if done == len(l) {
		do(l)
		return
	}
	for i := done; i < len(l); i++ {
		l[done], l[i] = l[i], l[done]
		orders(l, done+1, do)
		l[done], l[i] = l[i], l[done]
	}
}

func TestEachOrderOfFewNumbers(t *testing.T) {
	for _, numbers := range someNumbers(6) {
		orders(numbers, 0, func(l []uint64) {
			s, p := New(), plain{}
			for _, n := range l {
				if s.Add(n) != p.add(n) || s.Add(n) {
					t.Fatalf("%v: Add(%d) tells the wrong thing", l, n)
				}
				wantPlain(t, "each order", s, p, l...)
			}
		})
	}
}

// next is a number in no plain order.
func next(seed *uint64) uint64 {
	*seed = *seed*6364136223846793005 + 1442695040888963407
	return *seed >> 33
}

func TestManyNumbersInManyOrders(t *testing.T) {
	seed := uint64(1)
	for _, width := range []uint64{3, 10, 60, 200, 1000} {
		for _, base := range []uint64{0, 1, 1 << 40, top - width + 1} {
			s, p := New(), plain{}
			for i := range 400 {
				n := base + next(&seed)%width
				if got, want := s.Add(n), p.add(n); got != want {
					t.Fatalf("Add(%d) to %v: %v, want %v", n, p.ranges(), got, want)
				}
				if i%16 == 0 || width < 100 {
					wantPlain(t, "many", s, p, n, base, base+width-1)
				}
			}
			wantPlain(t, "many", s, p)
		}
	}
}

func TestManyRanges(t *testing.T) {
	const many = 3000
	rising, falling, p := New(), New(), plain{}
	for i := range uint64(many) {
		rising.Add(3 * (i + 1))
		falling.Add(3 * (many - i))
		p.add(3 * (i + 1))
	}
	wantPlain(t, "rising", rising, p)
	wantPlain(t, "falling", falling, p)
	for i := range uint64(many) {
		for _, n := range []uint64{3*i + 1, 3*i + 2} {
			if !rising.Add(n) || !falling.Add(3*many-n) {
				t.Fatalf("Add(%d) or Add(%d): false", n, 3*many-n)
			}
		}
	}
	wantRanges(t, "rising", rising, api.Range{Lo: 1, Hi: 3 * many})
	wantRanges(t, "falling", falling, api.Range{Lo: 1, Hi: 3 * many})
}

// P4.2

func TestFromNothing(t *testing.T) {
	for what, l := range map[string][]api.Range{"nil": nil, "empty": {}, "with room": make([]api.Range, 0, 9)} {
		s, err := From(l)
		if err != api.OK {
			t.Errorf("%s: From: %v", what, err)
		}
		wantPlain(t, what, s, plain{})
		isMade(t, what, s, 7)
	}
}

func TestFromDamaged(t *testing.T) {
	for what, l := range map[string][]api.Range{
		"the zero value":            {{}},
		"Lo 0":                      {{Lo: 0, Hi: 5}},
		"Lo 0 up to the greatest":   {{Lo: 0, Hi: top}},
		"Lo 0 behind one":           {{Lo: 1, Hi: 2}, {Lo: 0, Hi: 9}},
		"Lo 0 behind the greatest":  {{Lo: 1, Hi: top}, {Lo: 0, Hi: 0}},
		"Hi below Lo":               {{Lo: 5, Hi: 4}},
		"Hi 0":                      {{Lo: 1, Hi: 0}},
		"Hi below the greatest Lo":  {{Lo: top, Hi: top - 1}},
		"Hi below Lo behind one":    {{Lo: 1, Hi: 2}, {Lo: 5, Hi: 4}},
		"Hi below Lo at the first":  {{Lo: 5, Hi: 4}, {Lo: 8, Hi: 9}},
		"touching":                  {{Lo: 1, Hi: 2}, {Lo: 3, Hi: 4}},
		"touching at the greatest":  {{Lo: 1, Hi: top - 1}, {Lo: top, Hi: top}},
		"overlapping in a number":   {{Lo: 1, Hi: 3}, {Lo: 3, Hi: 4}},
		"overlapping":               {{Lo: 1, Hi: 5}, {Lo: 3, Hi: 9}},
		"within":                    {{Lo: 1, Hi: 9}, {Lo: 4, Hi: 5}},
		"around":                    {{Lo: 4, Hi: 5}, {Lo: 1, Hi: 9}},
		"falling":                   {{Lo: 8, Hi: 9}, {Lo: 1, Hi: 2}},
		"falling and touching":      {{Lo: 3, Hi: 4}, {Lo: 1, Hi: 2}},
		"the same":                  {{Lo: 1, Hi: 2}, {Lo: 1, Hi: 2}},
		"the same behind another":   {{Lo: 1, Hi: 2}, {Lo: 6, Hi: 7}, {Lo: 6, Hi: 7}},
		"all, and one":              {{Lo: 1, Hi: top}, {Lo: 1, Hi: 1}},
		"all, and the greatest":     {{Lo: 1, Hi: top}, {Lo: top, Hi: top}},
		"the greatest, and 1":       {{Lo: top, Hi: top}, {Lo: 1, Hi: 1}},
		"the greatest, and 2":       {{Lo: top, Hi: top}, {Lo: 2, Hi: 9}},
		"the greatest twice":        {{Lo: top, Hi: top}, {Lo: top, Hi: top}},
		"a third one falls":         {{Lo: 5, Hi: 6}, {Lo: 8, Hi: 9}, {Lo: 1, Hi: 2}},
		"a third one touches":       {{Lo: 1, Hi: 2}, {Lo: 5, Hi: 6}, {Lo: 7, Hi: 9}},
		"right ones behind a wrong": {{Lo: 0, Hi: 0}, {Lo: 5, Hi: 6}, {Lo: 8, Hi: 9}},
	} {
		if s, err := From(l); s != nil || err != api.ErrDamage {
			t.Errorf("%s: From(%v): %v, %v; want nil, %v", what, l, s, err, api.ErrDamage)
		}
	}
}

// told is whether a list is as Ranges tells the numbers that it covers; its ranges are narrow.
func told(l []api.Range) bool {
	p := plain{}
	for _, r := range l {
		if r.Lo == 0 || r.Hi < r.Lo {
			return false
		}
		for n := range r.Hi - r.Lo + 1 {
			p.add(r.Lo + n)
		}
	}
	return slices.Equal(p.ranges(), l)
}

func TestFromOfEachFewRanges(t *testing.T) {
	for _, ends := range [][]uint64{{0, 1, 2, 3, 4, 5, 6}, {top - 5, top - 4, top - 3, top - 2, top - 1, top}} {
		var all []api.Range
		for _, lo := range ends {
			for _, hi := range ends {
				all = append(all, api.Range{Lo: lo, Hi: hi})
			}
		}
		for _, a := range all {
			wantFrom(t, a)
			for _, b := range all {
				wantFrom(t, a, b)
				for _, c := range all {
					wantFrom(t, a, b, c)
				}
			}
		}
	}
}

func wantFrom(t *testing.T, l ...api.Range) {
	t.Helper()
	s, err := From(l)
	if !told(l) {
		if s != nil || err != api.ErrDamage {
			t.Fatalf("From(%v): %v, %v; want nil, %v", l, s, err, api.ErrDamage)
		}
		return
	}
	if err != api.OK || !slices.Equal(s.Ranges(), l) {
		t.Fatalf("From(%v): %v, %v", l, s.Ranges(), err)
	}
}

func TestFromWhatRangesTells(t *testing.T) {
	for _, numbers := range someNumbers(8) {
		for bits := range 1 << len(numbers) {
			s, p := holding(chosen(numbers, bits)...)
			back := must(t, s.Ranges()...)
			wantPlain(t, "From of Ranges", back, p, numbers...)
			for _, n := range numbers {
				if got, want := back.Add(n), p.add(n); got != want {
					t.Fatalf("From of Ranges: Add(%d): %v, want %v", n, got, want)
				}
				wantPlain(t, "Add behind From", back, p, numbers...)
			}
		}
	}
}

func TestJoinOfEachTwo(t *testing.T) {
	for _, numbers := range someNumbers(7) {
		for i := range 1 << len(numbers) {
			for j := range 1 << len(numbers) {
				a, p := holding(chosen(numbers, i)...)
				b, q := holding(chosen(numbers, j)...)
				both := maps.Clone(p)
				maps.Copy(both, q)
				wantPlain(t, "Join", Join(a, b), both, numbers...)
				wantPlain(t, "the left one", a, p)
				wantPlain(t, "the right one", b, q)
			}
		}
	}
}

func TestJoin(t *testing.T) {
	all := []api.Range{{Lo: 1, Hi: top}}
	for what, c := range map[string]struct{ a, b, want []api.Range }{
		"both empty":             {nil, nil, nil},
		"one empty":              {[]api.Range{{Lo: 2, Hi: 3}, {Lo: 6, Hi: 6}}, nil, []api.Range{{Lo: 2, Hi: 3}, {Lo: 6, Hi: 6}}},
		"touching":               {[]api.Range{{Lo: 1, Hi: 3}}, []api.Range{{Lo: 4, Hi: 6}}, []api.Range{{Lo: 1, Hi: 6}}},
		"touching at both ends":  {[]api.Range{{Lo: 1, Hi: 3}, {Lo: 7, Hi: 9}}, []api.Range{{Lo: 4, Hi: 6}}, []api.Range{{Lo: 1, Hi: 9}}},
		"overlapping":            {[]api.Range{{Lo: 1, Hi: 5}}, []api.Range{{Lo: 4, Hi: 8}}, []api.Range{{Lo: 1, Hi: 8}}},
		"within":                 {[]api.Range{{Lo: 1, Hi: 9}}, []api.Range{{Lo: 3, Hi: 4}, {Lo: 6, Hi: 6}}, []api.Range{{Lo: 1, Hi: 9}}},
		"the same beginning":     {[]api.Range{{Lo: 3, Hi: 9}}, []api.Range{{Lo: 3, Hi: 4}}, []api.Range{{Lo: 3, Hi: 9}}},
		"over many":              {[]api.Range{{Lo: 2, Hi: 3}, {Lo: 5, Hi: 6}, {Lo: 8, Hi: 9}}, []api.Range{{Lo: 3, Hi: 8}}, []api.Range{{Lo: 2, Hi: 9}}},
		"apart":                  {[]api.Range{{Lo: 1, Hi: 2}, {Lo: 8, Hi: 9}}, []api.Range{{Lo: 4, Hi: 6}}, []api.Range{{Lo: 1, Hi: 2}, {Lo: 4, Hi: 6}, {Lo: 8, Hi: 9}}},
		"apart by turns":         {[]api.Range{{Lo: 1, Hi: 1}, {Lo: 5, Hi: 5}}, []api.Range{{Lo: 3, Hi: 3}, {Lo: 7, Hi: 7}}, []api.Range{{Lo: 1, Hi: 1}, {Lo: 3, Hi: 3}, {Lo: 5, Hi: 5}, {Lo: 7, Hi: 7}}},
		"all and one":            {all, []api.Range{{Lo: 1, Hi: 1}, {Lo: top, Hi: top}}, all},
		"all and all":            {all, all, all},
		"touching at the top":    {[]api.Range{{Lo: 1, Hi: top - 1}}, []api.Range{{Lo: top, Hi: top}}, all},
		"touching in the midst":  {[]api.Range{{Lo: 1, Hi: 1 << 63}}, []api.Range{{Lo: 1<<63 + 1, Hi: top}}, all},
		"apart at the top":       {[]api.Range{{Lo: 1, Hi: top - 2}}, []api.Range{{Lo: top, Hi: top}}, []api.Range{{Lo: 1, Hi: top - 2}, {Lo: top, Hi: top}}},
		"the least and greatest": {[]api.Range{{Lo: 1, Hi: 1}}, []api.Range{{Lo: top, Hi: top}}, []api.Range{{Lo: 1, Hi: 1}, {Lo: top, Hi: top}}},
	} {
		a, b := must(t, c.a...), must(t, c.b...)
		wantRanges(t, what, Join(a, b), c.want...)
		wantRanges(t, what+", turned around", Join(b, a), c.want...)
		wantRanges(t, what+", the left one", a, c.a...)
		wantRanges(t, what+", the right one", b, c.b...)
	}
}

func TestJoinIsASetOfItsOwn(t *testing.T) {
	for what, pair := range map[string][2][]uint64{
		"both empty":  {nil, nil},
		"left empty":  {nil, {2, 3, 7}},
		"right empty": {{2, 3, 7}, nil},
		"apart":       {{2, 3, 7}, {10, 12, 14}},
		"overlapping": {{2, 3, 7}, {3, 4, 7, 9}},
	} {
		a, p := holding(pair[0]...)
		b, q := holding(pair[1]...)
		both := maps.Clone(p)
		maps.Copy(both, q)
		j := Join(a, b)
		if j == a || j == b {
			t.Fatalf("%s: Join told one of the two", what)
		}
		for n := range uint64(20) {
			j.Add(n)
		}
		wantPlain(t, what+": the left one", a, p)
		wantPlain(t, what+": the right one", b, q)
		j = Join(a, b)
		for n := range uint64(20) {
			a.Add(n)
			b.Add(n)
		}
		wantPlain(t, what+": the joined one", j, both)
	}
}

func TestJoinWithItself(t *testing.T) {
	for _, numbers := range [][]uint64{nil, {1}, {2, 3, 7}, {top}, {1, top}} {
		s, p := holding(numbers...)
		j := Join(s, s)
		if j == s {
			t.Fatal("Join of a set with itself told that set")
		}
		wantPlain(t, "with itself", j, p)
		isMade(t, "with itself", j, 50)
		wantPlain(t, "the set itself", s, p)
	}
}

func TestCopy(t *testing.T) {
	for _, numbers := range someNumbers(6) {
		for bits := range 1 << len(numbers) {
			for _, n := range numbers {
				s, p := holding(chosen(numbers, bits)...)
				c := s.Copy()
				if c == s {
					t.Fatal("Copy told the set itself")
				}
				wantPlain(t, "Copy", c, p, numbers...)
				changed := maps.Clone(p)
				if got, want := c.Add(n), changed.add(n); got != want {
					t.Fatalf("Copy: Add(%d): %v, want %v", n, got, want)
				}
				wantPlain(t, "the set whose copy was changed", s, p, n)
				wantPlain(t, "the copy that was changed", c, changed, n)
				c = s.Copy()
				s.Add(n)
				wantPlain(t, "the copy whose set was changed", c, p, n)
				wantPlain(t, "the set that was changed", s, changed, n)
			}
		}
	}
}

// Both grow at their end by turns, where spare room would be shared.
func TestCopyInSpareRoom(t *testing.T) {
	s, p := holding(1, 3, 5, 7, 9)
	c, q := s.Copy(), maps.Clone(p)
	again, r := c.Copy(), maps.Clone(p)
	for i := range uint64(40) {
		s.Add(11 + 2*i)
		p.add(11 + 2*i)
		c.Add(200 + 2*i)
		q.add(200 + 2*i)
		again.Add(400 + 3*i)
		r.add(400 + 3*i)
	}
	wantPlain(t, "the set", s, p)
	wantPlain(t, "the copy", c, q)
	wantPlain(t, "the copy's copy", again, r)
}

// R5, in the chapter's words

func TestSetThatNoCallMade(t *testing.T) {
	for what, s := range unmade() {
		for _, n := range []uint64{0, 1, 2, 1 << 63, top - 1, top} {
			if s.Add(n) || s.Has(n) {
				t.Errorf("%s: Add(%d) or Has(%d): true", what, n, n)
			}
		}
		wantPlain(t, what, s, plain{})
		c := s.Copy()
		wantPlain(t, what+": Copy", c, plain{})
		isMade(t, what+": Copy", c, 3)
		wantPlain(t, what+", behind a change of its copy", s, plain{})
		if s.Add(3) {
			t.Errorf("%s: Add tells true behind Copy", what)
		}
	}
}

func TestJoinOfSetsThatNoCallMade(t *testing.T) {
	for what, a := range unmade() {
		for other, b := range unmade() {
			j := Join(a, b)
			wantPlain(t, what+" and "+other, j, plain{})
			isMade(t, what+" and "+other, j, 4)
			if a.Has(4) || b.Has(4) || a.Add(4) || b.Add(4) {
				t.Errorf("%s and %s: one of them was made", what, other)
			}
		}
		for _, numbers := range [][]uint64{nil, {1, 2, 9}, {top}} {
			s, p := holding(numbers...)
			left, right := Join(a, s), Join(s, a)
			wantPlain(t, what+" at the left", left, p)
			wantPlain(t, what+" at the right", right, p)
			isMade(t, what+" at the left", left, 5)
			isMade(t, what+" at the right", right, 6)
			wantPlain(t, what+": the other one", s, p)
		}
		j := Join(a, a)
		wantPlain(t, what+" with itself", j, plain{})
		isMade(t, what+" with itself", j, 8)
	}
}

// R3

// roomy is l with other ranges in the room behind its end, and the whole of that room.
func roomy(l []api.Range) (list, room []api.Range) {
	room = slices.Clone(l)
	for range 8 {
		room = append(room, api.Range{Lo: 91, Hi: 19})
	}
	return room[:len(l)], room
}

// scribble writes into a list and into its spare room.
func scribble(l []api.Range) {
	l = l[:cap(l)]
	for i := range l {
		l[i] = api.Range{Lo: 77, Hi: 7}
	}
}

func TestFromNeitherChangesNorKeepsTheList(t *testing.T) {
	for _, l := range [][]api.Range{
		nil,
		{{Lo: 1, Hi: 4}},
		{{Lo: 3, Hi: 4}, {Lo: 6, Hi: 6}},
		{{Lo: 3, Hi: 4}, {Lo: 5, Hi: 6}},
		{{Lo: 0, Hi: 4}},
		{{Lo: 6, Hi: 8}, {Lo: 1, Hi: 2}},
	} {
		given, room := roomy(l)
		before := slices.Clone(room)
		s, err := From(given)
		other, _ := From(given)
		for n := range uint64(20) {
			other.Add(n)
		}
		if !slices.Equal(room, before) {
			t.Errorf("From(%v) changed the list, or the room behind it: %v", l, room)
		}
		scribble(room)
		if err == api.OK && !slices.Equal(s.Ranges(), l) {
			t.Errorf("From(%v) kept the list: %v", l, s.Ranges())
		}
	}
}

func TestWhatRangesToldStays(t *testing.T) {
	for _, numbers := range [][]uint64{nil, {1}, {1, 3, 5}, {2, 3, 9, 10, 11, 40}} {
		s, p := holding(numbers...)
		first, second := s.Ranges(), s.Ranges()
		scribble(second)
		second = s.Ranges()
		for n := uint64(60); n > 0; n-- {
			s.Add(n)
		}
		if !slices.Equal(first, p.ranges()) || !slices.Equal(second, p.ranges()) {
			t.Errorf("Ranges of %v was changed by another answer or by the set: %v, %v", p.ranges(), first, second)
		}
	}
}

func TestWhatRangesToldIsTheCallersOwn(t *testing.T) {
	for _, numbers := range [][]uint64{nil, {1}, {1, 3, 5}, {2, 3, 9, 10, 11, 40}} {
		s, p := holding(numbers...)
		c, j, f := s.Copy(), Join(s, nil), must(t, s.Ranges()...)
		for _, one := range []*Set{s, c, j, f} {
			l := one.Ranges()
			scribble(l)
			l = append(l, api.Range{Lo: 5, Hi: 5})
			scribble(l)
			for _, each := range []*Set{s, c, j, f} {
				wantPlain(t, "behind a change of an answer", each, p)
			}
		}
	}
}

// P4.3

func TestOrderDoesNotMatter(t *testing.T) {
	for _, numbers := range [][]uint64{{1, 2, 3, 4, 5, 6}, {1, 2, 4, 5, 9, 11}, {2, 4, 6, 8, 10, 3}, {top, top - 1, top - 3, 1, 3, 2}} {
		once, _ := holding(numbers...)
		want := once.Ranges()
		orders(numbers, 0, func(l []uint64) {
			s, _ := holding(l...)
			if !slices.Equal(s.Ranges(), want) {
				t.Fatalf("%v: %v, want %v", l, s.Ranges(), want)
			}
		})
	}
}

func TestGapsAreBounded(t *testing.T) {
	seed := uint64(9)
	for _, width := range []uint64{5, 50, 500} {
		s := New()
		added := uint64(0)
		for range 300 {
			if s.Add(1 + next(&seed)%width) {
				added++
			}
			gaps, missing := uint64(s.Gaps()), s.Top()-added
			if gaps > missing || gaps > added {
				t.Fatalf("%d Gaps, %d missing below Top, %d added", gaps, missing, added)
			}
		}
	}
	s := must(t, api.Range{Lo: top, Hi: top})
	if s.Gaps() != 1 {
		t.Errorf("Gaps of the greatest alone: %d, want 1", s.Gaps())
	}
}
