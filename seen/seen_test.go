package seen

import (
	"fmt"
	"math"
	"slices"
	"testing"

	"staith/api"
)

const top = math.MaxUint64

// plain is a book told by what was put into it: for each origin ranges as they came, touching or not. It is what a Book is held against.
type plain map[int][]api.Range

// has is there: within something that came.
func has(l []api.Range, n uint64) bool {
	return n > 0 && slices.ContainsFunc(l, func(r api.Range) bool { return r.Lo <= n && n <= r.Hi })
}

// ranges pairs the numbers behind a missing one with those ahead of a missing one.
func ranges(l []api.Range) []api.Range {
	var begin, end []uint64
	for _, r := range l {
		if has(l, r.Lo) && !has(l, r.Lo-1) {
			begin = append(begin, r.Lo)
		}
		if has(l, r.Hi) && (r.Hi == top || !has(l, r.Hi+1)) {
			end = append(end, r.Hi)
		}
	}
	slices.Sort(begin)
	slices.Sort(end)
	begin, end = slices.Compact(begin), slices.Compact(end)
	out := make([]api.Range, len(begin))
	for i, n := range begin {
		out[i] = api.Range{Lo: n, Hi: end[i]}
	}
	return out
}

// right: is l as Ranges tells it?
func right(l []api.Range) bool {
	for _, r := range l {
		if r.Lo == 0 || r.Hi < r.Lo {
			return false
		}
	}
	return slices.Equal(ranges(l), l)
}

func mayBe(origin int) bool {
	return slices.Contains([]int{1, 2, 3, 4, 5, 6, 7, 8}, origin)
}

func (p plain) add(id api.Ident) bool {
	if !mayBe(id.Origin) || id.Seq == 0 || has(p[id.Origin], id.Seq) {
		return false
	}
	p[id.Origin] = append(p[id.Origin], one(id.Seq))
	return true
}

func (p plain) put(origin int, l []api.Range) api.Errno {
	if !mayBe(origin) {
		return api.ErrInput
	}
	if !right(l) {
		return api.ErrDamage
	}
	p[origin] = slices.Clone(l)
	return api.OK
}

// low counts from 1 on, a range that came at a time.
func (p plain) low(origin int) uint64 {
	n := uint64(0)
	for n < top && has(p[origin], n+1) {
		for _, r := range p[origin] {
			if r.Lo <= n+1 && n+1 <= r.Hi {
				n = r.Hi
				break
			}
		}
	}
	return n
}

func (p plain) gaps(origin int) int {
	count := 0
	for _, r := range ranges(p[origin]) {
		if r.Lo != 1 {
			count++
		}
	}
	return count
}

func (p plain) origins() []int {
	var l []int
	for origin := range 20 {
		if len(p[origin]) > 0 {
			l = append(l, origin)
		}
	}
	return l
}

func (p plain) copy() plain {
	other := plain{}
	for origin, l := range p {
		other[origin] = slices.Clone(l)
	}
	return other
}

// one is the range of one number.
func one(n uint64) api.Range { return api.Range{Lo: n, Hi: n} }

// to is the range from lo to hi.
func to(lo, hi uint64) api.Range { return api.Range{Lo: lo, Hi: hi} }

func id(origin int, seq uint64) api.Ident { return api.Ident{Origin: origin, Seq: seq} }

// strange are numbers that are no origin's.
var strange = []int{0, -1, -2, -8, 9, 10, 16, 257, 1<<32 + 1, math.MinInt, math.MinInt + 1, math.MaxInt - 1, math.MaxInt}

// seqs are those at the ends, and some in between.
var seqs = []uint64{0, 1, 2, 3, 4, 1 << 32, 1<<63 - 1, 1 << 63, top - 1, top}

// everyOrigin are those that may be, and strange ones.
func everyOrigin() []int {
	return append([]int{1, 2, 3, 4, 5, 6, 7, 8}, strange...)
}

// wantPlain holds all that a book tells against a plain one, Has at the ends and beside what is there too.
func wantPlain(t *testing.T, what string, b *Book, p plain) {
	t.Helper()
	if got, want := b.Origins(), p.origins(); !slices.Equal(got, want) {
		t.Fatalf("%s: Origins of %v: %v, want %v", what, p, got, want)
	}
	for _, origin := range everyOrigin() {
		if got, want := b.Ranges(origin), ranges(p[origin]); !slices.Equal(got, want) {
			t.Fatalf("%s: Ranges(%d) of %v: %v, want %v", what, origin, p, got, want)
		}
		if got, want := b.Low(origin), p.low(origin); got != want {
			t.Fatalf("%s: Low(%d) of %v: %d, want %d", what, origin, p, got, want)
		}
		if got, want := b.Gaps(origin), p.gaps(origin); got != want {
			t.Fatalf("%s: Gaps(%d) of %v: %d, want %d", what, origin, p, got, want)
		}
		asked := seqs
		for _, r := range p[origin] {
			asked = append(slices.Clip(asked), r.Lo-1, r.Lo, r.Hi, r.Hi+1)
		}
		for _, n := range asked {
			if got, want := b.Has(id(origin, n)), has(p[origin], n); got != want {
				t.Fatalf("%s: Has(%d, %d) of %v: %v", what, origin, n, p, got)
			}
		}
	}
}

// addBoth adds an id to a book and to the plain one, which must tell the same.
func addBoth(t *testing.T, b *Book, p plain, i api.Ident) {
	t.Helper()
	before := fmt.Sprint(p)
	if got, want := b.Add(i), p.add(i); got != want {
		t.Fatalf("Add(%v) to %s: %v, want %v", i, before, got, want)
	}
}

// putBoth puts ranges into a book and into the plain one, which must tell the same.
func putBoth(t *testing.T, b *Book, p plain, origin int, l []api.Range) {
	t.Helper()
	before := fmt.Sprint(p)
	if got, want := b.Put(origin, l), p.put(origin, l); got != want {
		t.Fatalf("Put(%d, %v) to %s: %v, want %v", origin, l, before, got, want)
	}
}

// some is a book with several origins, and the plain one.
func some(t *testing.T) (*Book, plain) {
	t.Helper()
	b, p := New(), plain{}
	for _, i := range []api.Ident{id(5, 2), id(2, 1), id(2, 2), id(2, 9), id(8, top), id(8, top-1), id(1, 1), id(1, 3)} {
		addBoth(t, b, p, i)
	}
	return b, p
}

// beginnings are an empty book and one with several origins, each with the plain one.
func beginnings(t *testing.T, do func(what string, b *Book, p plain)) {
	t.Helper()
	do("an empty book", New(), plain{})
	b, p := some(t)
	do("some origins", b, p)
}

// unmade are books that no call made.
func unmade() map[string]*Book {
	return map[string]*Book{"nil": nil, "the zero value": {}, "new's": new(Book)}
}

// P9.1

func TestExample(t *testing.T) {
	b := New()
	if !b.Add(id(1, 1)) || !b.Add(id(1, 3)) {
		t.Error("Add of an id that was not there: false")
	}
	if b.Low(1) != 1 || b.Gaps(1) != 1 {
		t.Errorf("Low(1) %d, Gaps(1) %d; want 1, 1", b.Low(1), b.Gaps(1))
	}
	if b.Add(id(1, 1)) {
		t.Error("Add of an id that was there: true")
	}
}

func TestEmptyBook(t *testing.T) {
	b := New()
	wantPlain(t, "empty", b, plain{})
	if !b.Add(id(1, 1)) {
		t.Error("nothing can be added to an empty book")
	}
	if other := New(); other == b || other.Has(id(1, 1)) {
		t.Error("New told a book that was there")
	}
}

func TestAddEachOriginAndSeq(t *testing.T) {
	for _, origin := range everyOrigin() {
		for _, seq := range seqs {
			beginnings(t, func(what string, b *Book, p plain) {
				addBoth(t, b, p, id(origin, seq))
				wantPlain(t, what, b, p)
				if b.Add(id(origin, seq)) {
					t.Errorf("%s: Add(%d, %d) a second time: true", what, origin, seq)
				}
				wantPlain(t, what, b, p)
			})
		}
	}
}

func TestAddTells(t *testing.T) {
	for _, c := range []struct {
		id  api.Ident
		new bool
	}{
		{id(1, 1), true}, {id(1, top), true}, {id(api.MaxSites, 1), true}, {id(api.MaxSites, top), true}, {id(4, 1<<63), true},
		{id(0, 1), false}, {id(-1, 1), false}, {id(math.MinInt, 1), false}, {id(api.MaxSites+1, 1), false}, {id(math.MaxInt, 1), false},
		{id(0, top), false}, {id(api.MaxSites+1, top), false}, {id(math.MaxInt, top), false},
		{id(1, 0), false}, {id(api.MaxSites, 0), false}, {id(0, 0), false}, {id(api.MaxSites+1, 0), false}, {api.Ident{}, false},
	} {
		b := New()
		if b.Has(c.id) {
			t.Errorf("Has(%v) of an empty book: true", c.id)
		}
		if got := b.Add(c.id); got != c.new {
			t.Errorf("Add(%v): %v", c.id, got)
		}
		if got := b.Has(c.id); got != c.new {
			t.Errorf("Has(%v) behind it: %v", c.id, got)
		}
		if b.Add(c.id) {
			t.Errorf("Add(%v) again: true", c.id)
		}
		if got := len(b.Origins()) == 1; got != c.new {
			t.Errorf("Origins behind Add(%v): %v", c.id, b.Origins())
		}
	}
}

func TestAddOfWhatAllNumbersHave(t *testing.T) {
	b, p := New(), plain{}
	putBoth(t, b, p, 3, []api.Range{to(1, top)})
	for _, seq := range seqs {
		addBoth(t, b, p, id(3, seq))
		if b.Has(id(3, seq)) != (seq > 0) {
			t.Errorf("all numbers: Has(3, %d): %v", seq, seq == 0)
		}
		if b.Has(id(2, seq)) || b.Has(id(4, seq)) {
			t.Errorf("Has(2, %d) or Has(4, %d): true, and all are of 3", seq, seq)
		}
	}
	wantPlain(t, "all numbers", b, p)
	if b.Low(3) != top || b.Gaps(3) != 0 {
		t.Errorf("all numbers: Low %d, Gaps %d", b.Low(3), b.Gaps(3))
	}
}

// orders calls do with each order of l.
func orders[T any](l []T, done int, do func(l []T)) {
	if done == len(l) {
		do(l)
		return
	}
	for i := done; i < len(l); i++ {
		l[done], l[i] = l[i], l[done]
		orders(l, done+1, do)
		l[done], l[i] = l[i], l[done]
	}
}

func TestAddInEachOrder(t *testing.T) {
	for _, l := range [][]api.Ident{
		{id(1, 1), id(1, 2), id(1, 4), id(2, 1), id(2, 2)},
		{id(8, top), id(8, top-1), id(1, 1), id(1, 2), id(8, 1)},
		{id(3, 1), id(3, 2), id(3, 3), id(3, 4), id(3, 5)},
		{id(4, 7), id(5, 7), id(6, 7), id(4, 0), id(9, 7)},
	} {
		orders(l, 0, func(l []api.Ident) {
			b, p := New(), plain{}
			for _, i := range l {
				addBoth(t, b, p, i)
				addBoth(t, b, p, i)
				wantPlain(t, "each order", b, p)
			}
		})
	}
}

func TestLowGapsAndRanges(t *testing.T) {
	for _, c := range []struct {
		l    []api.Range
		low  uint64
		gaps int
	}{
		{nil, 0, 0},
		{[]api.Range{one(1)}, 1, 0},
		{[]api.Range{to(1, 9)}, 9, 0},
		{[]api.Range{one(2)}, 0, 1},
		{[]api.Range{to(1, 2), one(5)}, 2, 1},
		{[]api.Range{to(3, 4), one(6)}, 0, 2},
		{[]api.Range{one(1), one(3), to(5, 8)}, 1, 2},
		{[]api.Range{to(1, top)}, top, 0},
		{[]api.Range{one(top)}, 0, 1},
		{[]api.Range{to(1, top-2), one(top)}, top - 2, 1},
	} {
		for origin := 1; origin <= api.MaxSites; origin++ {
			b := New()
			if err := b.Put(origin, c.l); err != api.OK {
				t.Fatalf("Put(%d, %v): %v", origin, c.l, err)
			}
			for _, asked := range everyOrigin() {
				low, gaps, l := b.Low(asked), b.Gaps(asked), b.Ranges(asked)
				if asked != origin && (low != 0 || gaps != 0 || len(l) != 0) {
					t.Errorf("%v of %d: Low %d, Gaps %d, Ranges %v of %d", c.l, origin, low, gaps, l, asked)
				}
				if asked == origin && (low != c.low || gaps != c.gaps || !slices.Equal(l, c.l)) {
					t.Errorf("%v: Low %d, Gaps %d, Ranges %v; want %d, %d", c.l, low, gaps, l, c.low, c.gaps)
				}
			}
		}
	}
}

func TestOriginsOfEachChoice(t *testing.T) {
	for bits := range 1 << api.MaxSites {
		var want []int
		for origin := 1; origin <= api.MaxSites; origin++ {
			if bits>>(origin-1)&1 == 1 {
				want = append(want, origin)
			}
		}
		falling := slices.Clone(want)
		slices.Reverse(falling)
		half := slices.Concat(want[len(want)/2:], want[:len(want)/2])
		for _, order := range [][]int{want, falling, half} {
			b := New()
			for _, origin := range order {
				b.Add(id(origin, uint64(10-origin)))
				b.Add(id(origin, 20))
			}
			if got := b.Origins(); !slices.Equal(got, want) {
				t.Fatalf("Origins, added as %v: %v", order, got)
			}
			put := New()
			for _, origin := range order {
				put.Put(origin, []api.Range{to(3, 5), one(top)})
			}
			if got := put.Origins(); !slices.Equal(got, want) {
				t.Fatalf("Origins, put as %v: %v", order, got)
			}
		}
	}
}

// wrongs are lists that span's From does not take.
func wrongs() map[string][]api.Range {
	return map[string][]api.Range{
		"the zero value":           {{}},
		"Lo 0":                     {to(0, 5)},
		"Lo 0 up to the greatest":  {to(0, top)},
		"Lo 0 behind one":          {to(1, 2), to(0, 9)},
		"Lo 0 behind the greatest": {to(1, top), to(0, 0)},
		"Hi below Lo":              {to(5, 4)},
		"Hi 0":                     {to(1, 0)},
		"Hi below Lo behind one":   {to(1, 2), to(5, 4)},
		"Hi below Lo at the first": {to(5, 4), to(8, 9)},
		"touching":                 {to(1, 2), to(3, 4)},
		"touching at the greatest": {to(1, top-1), one(top)},
		"touching behind one":      {one(1), to(3, 4), to(5, 6)},
		"overlapping in a number":  {to(1, 3), to(3, 4)},
		"overlapping":              {to(1, 5), to(3, 9)},
		"within":                   {to(1, 9), to(4, 5)},
		"falling":                  {to(8, 9), to(1, 2)},
		"the same":                 {to(1, 2), to(1, 2)},
		"behind all":               {to(1, top), one(1)},
	}
}

// goods are lists that span's From takes.
func goods() [][]api.Range {
	return [][]api.Range{
		nil, {}, {one(1)}, {one(2)}, {one(top)}, {to(1, top)}, {to(2, top-1)}, {to(1, 2), to(4, 5)},
		{one(1), one(3), one(5)}, {to(1, top-2), one(top)}, {to(7, 9), to(11, 1<<63), to(1<<63+2, top)},
	}
}

func TestPut(t *testing.T) {
	for _, origin := range everyOrigin() {
		for _, l := range goods() {
			beginnings(t, func(what string, b *Book, p plain) {
				putBoth(t, b, p, origin, l)
				wantPlain(t, what, b, p)
				putBoth(t, b, p, origin, l)
				wantPlain(t, what, b, p)
				for _, seq := range seqs {
					addBoth(t, b, p, id(origin, seq))
					wantPlain(t, what, b, p)
				}
			})
		}
	}
}

func TestPutTells(t *testing.T) {
	for _, l := range goods() {
		for _, c := range []struct {
			origin int
			want   api.Errno
		}{
			{1, api.OK}, {4, api.OK}, {api.MaxSites, api.OK},
			{0, api.ErrInput}, {-1, api.ErrInput}, {math.MinInt, api.ErrInput}, {api.MaxSites + 1, api.ErrInput}, {math.MaxInt, api.ErrInput},
		} {
			b := New()
			if got := b.Put(c.origin, l); got != c.want {
				t.Errorf("Put(%d, %v): %v, want %v", c.origin, l, got, c.want)
			}
			if got := b.Ranges(c.origin); c.want == api.OK && !slices.Equal(got, l) {
				t.Errorf("Put(%d, %v): Ranges %v", c.origin, l, got)
			}
			if got := b.Origins(); (c.want != api.OK || len(l) == 0) && len(got) != 0 {
				t.Errorf("Put(%d, %v): Origins %v", c.origin, l, got)
			}
		}
	}
}

func TestPutRefused(t *testing.T) {
	for what, l := range wrongs() {
		for _, origin := range everyOrigin() {
			want := api.ErrInput
			if mayBe(origin) {
				want = api.ErrDamage
			}
			beginnings(t, func(of string, b *Book, p plain) {
				if got := b.Put(origin, l); got != want {
					t.Errorf("%s: Put(%d, %v), %s: %v, want %v", of, origin, l, what, got, want)
				}
				wantPlain(t, of+" behind a Put that is refused", b, p)
				addBoth(t, b, p, id(origin, 2))
				wantPlain(t, of+", with an id behind it", b, p)
			})
		}
	}
}

func TestPutEachShortList(t *testing.T) {
	var narrow []api.Range
	for _, base := range []uint64{0, top - 3} {
		for lo := range uint64(4) {
			for hi := range uint64(4) {
				narrow = append(narrow, to(base+lo, base+hi))
			}
		}
	}
	b, p := New(), plain{}
	for _, first := range narrow {
		putBoth(t, b, p, 2, []api.Range{first})
		for _, second := range narrow {
			l := []api.Range{first, second}
			putBoth(t, b, p, 7, l)
			if got := b.Ranges(7); !slices.Equal(got, ranges(p[7])) {
				t.Fatalf("Put(7, %v): Ranges %v", l, got)
			}
		}
	}
	wantPlain(t, "many lists", b, p)
}

func TestPutOfNone(t *testing.T) {
	for what, none := range map[string][]api.Range{"nil": nil, "empty": {}, "with room": make([]api.Range, 0, 4)} {
		for origin := 1; origin <= api.MaxSites; origin++ {
			beginnings(t, func(of string, b *Book, p plain) {
				putBoth(t, b, p, origin, none)
				wantPlain(t, of+", "+what, b, p)
				if slices.Contains(b.Origins(), origin) {
					t.Errorf("%s, %s: %d is there", of, what, origin)
				}
				// What is gone is new once more.
				for _, seq := range []uint64{1, 2, 3, 9, top - 1, top} {
					if !b.Add(id(origin, seq)) || !p.add(id(origin, seq)) {
						t.Errorf("%s, %s: Add(%d, %d) behind it: false", of, what, origin, seq)
					}
				}
				wantPlain(t, of+", "+what+", with ids behind it", b, p)
			})
		}
	}
}

func TestAddBehindPut(t *testing.T) {
	b := New()
	b.Add(id(6, 100))
	b.Put(6, []api.Range{to(2, 4), to(6, 9)})
	for _, c := range []struct {
		seq  uint64
		new  bool
		low  uint64
		want []api.Range
	}{
		{0, false, 0, []api.Range{to(2, 4), to(6, 9)}},
		{2, false, 0, []api.Range{to(2, 4), to(6, 9)}},
		{9, false, 0, []api.Range{to(2, 4), to(6, 9)}},
		{100, true, 0, []api.Range{to(2, 4), to(6, 9), one(100)}},
		{5, true, 0, []api.Range{to(2, 9), one(100)}},
		{1, true, 9, []api.Range{to(1, 9), one(100)}},
		{1, false, 9, []api.Range{to(1, 9), one(100)}},
		{10, true, 10, []api.Range{to(1, 10), one(100)}},
	} {
		if got := b.Add(id(6, c.seq)); got != c.new {
			t.Errorf("Add(6, %d): %v", c.seq, got)
		}
		if got := b.Ranges(6); !slices.Equal(got, c.want) || b.Low(6) != c.low {
			t.Errorf("behind Add(6, %d): Ranges %v, Low %d; want %v, %d", c.seq, got, b.Low(6), c.want, c.low)
		}
	}
}

func TestRangesCanBePutAgain(t *testing.T) {
	b, p := some(t)
	other := New()
	for _, origin := range b.Origins() {
		if err := other.Put(origin, b.Ranges(origin)); err != api.OK {
			t.Errorf("Put of what Ranges(%d) tells: %v", origin, err)
		}
	}
	wantPlain(t, "put again", other, p)
}

// change does something to each origin of a book, and to the plain one.
func change(t *testing.T, b *Book, p plain) {
	t.Helper()
	for origin := 1; origin <= api.MaxSites; origin++ {
		for _, seq := range []uint64{1, 2, 3, 4, 1 << 40, top - 2} {
			addBoth(t, b, p, id(origin, seq))
		}
	}
	putBoth(t, b, p, 2, nil)
	putBoth(t, b, p, 7, []api.Range{one(4)})
}

func TestCopy(t *testing.T) {
	for _, changed := range []string{"the copy", "the other"} {
		beginnings(t, func(what string, b *Book, p plain) {
			other := b.Copy()
			if other == nil || other == b {
				t.Fatalf("%s: Copy told none, or the same", what)
			}
			wantPlain(t, what+", a copy", other, p)
			wantPlain(t, what+", copied", b, p)
			if changed == "the other" {
				b, other = other, b
			}
			q := p.copy()
			change(t, other, q)
			wantPlain(t, what+", where the other one changed", b, p)
			wantPlain(t, what+", changed", other, q)
			change(t, b, p)
			wantPlain(t, what+", where both changed", b, p)
			wantPlain(t, what+", where both changed, the other", other, q)
		})
	}
}

func TestCopyOfACopy(t *testing.T) {
	b, p := some(t)
	first := b.Copy()
	first.Add(id(3, 3))
	second := first.Copy()
	q := p.copy()
	q.add(id(3, 3))
	wantPlain(t, "the first", b, p)
	wantPlain(t, "the second", first, q)
	wantPlain(t, "the third", second, q)
}

func TestUnmade(t *testing.T) {
	for what, b := range unmade() {
		for range 2 {
			for _, origin := range everyOrigin() {
				for _, seq := range seqs {
					if b.Add(id(origin, seq)) || b.Has(id(origin, seq)) {
						t.Errorf("%s: Add or Has of (%d, %d): true", what, origin, seq)
					}
				}
				lists := goods()
				for _, l := range wrongs() {
					lists = append(lists, l)
				}
				for _, l := range lists {
					if err := b.Put(origin, l); err != api.ErrUnmade {
						t.Errorf("%s: Put(%d, %v): %v", what, origin, l, err)
					}
				}
			}
			wantPlain(t, what, b, plain{})
			if b.Copy() != nil {
				t.Errorf("%s: Copy told a book", what)
			}
		}
	}
}

// P9.2

func TestAnIdIsNewOnce(t *testing.T) {
	seed := uint64(3)
	b, count := New(), map[api.Ident]int{}
	for range 6000 {
		i := id(int(next(&seed)%10), next(&seed)%40)
		if b.Add(i) {
			count[i]++
		}
	}
	if want := api.MaxSites * 39; len(count) != want {
		t.Errorf("%d ids were new, want %d", len(count), want)
	}
	for i, n := range count {
		if n != 1 || !mayBe(i.Origin) || i.Seq == 0 || !b.Has(i) {
			t.Errorf("%v was new %d times; Has: %v", i, n, b.Has(i))
		}
	}
}

func TestOriginsAreApart(t *testing.T) {
	for origin := 1; origin <= api.MaxSites; origin++ {
		b := New()
		for _, seq := range []uint64{1, 2, 5, top} {
			b.Add(id(origin, seq))
		}
		for _, other := range everyOrigin() {
			if other == origin {
				continue
			}
			for _, seq := range seqs {
				if b.Has(id(other, seq)) {
					t.Errorf("added of %d, Has(%d, %d): true", origin, other, seq)
				}
			}
			if b.Low(other) != 0 || b.Gaps(other) != 0 || len(b.Ranges(other)) != 0 {
				t.Errorf("added of %d, seen in %d", origin, other)
			}
			if mayBe(other) && !b.Add(id(other, 5)) {
				t.Errorf("Add(%d, 5): false, and only %d's was there", other, origin)
			}
		}
	}
}

func TestPutIsOfOneOrigin(t *testing.T) {
	for origin := 1; origin <= api.MaxSites; origin++ {
		b, p := New(), plain{}
		for other := 1; other <= api.MaxSites; other++ {
			putBoth(t, b, p, other, []api.Range{one(uint64(other)), to(20, 30)})
		}
		putBoth(t, b, p, origin, []api.Range{to(1, 25)})
		wantPlain(t, "put over", b, p)
		putBoth(t, b, p, origin, nil)
		wantPlain(t, "put none", b, p)
		if len(b.Origins()) != api.MaxSites-1 {
			t.Errorf("Origins: %v", b.Origins())
		}
	}
}

// Rows of calls.

// step is a call that changes a book, or should not.
type step func(t *testing.T, b *Book, p plain)

func adding(origin int, seq uint64) step {
	return func(t *testing.T, b *Book, p plain) { addBoth(t, b, p, id(origin, seq)) }
}

func putting(origin int, l ...api.Range) step {
	return func(t *testing.T, b *Book, p plain) { putBoth(t, b, p, origin, l) }
}

// rows calls do with each row of n steps.
func rows(steps []step, n int, row []step, do func(row []step)) {
	if n == 0 {
		do(row)
		return
	}
	for _, s := range steps {
		rows(steps, n-1, append(slices.Clip(row), s), do)
	}
}

func TestEachShortRow(t *testing.T) {
	steps := []step{
		adding(1, 1), adding(1, 2), adding(1, 3), adding(2, 2), adding(8, top), adding(0, 1), adding(9, 1), adding(1, 0),
		putting(1), putting(1, to(2, 3)), putting(8, one(1), one(top)), putting(1, one(0)), putting(0, one(1)),
	}
	for n := range 4 {
		rows(steps, n, nil, func(row []step) {
			b, p := New(), plain{}
			for _, s := range row {
				s(t, b, p)
			}
			wantPlain(t, "a row", b, p)
		})
	}
}

// next is a number in no plain order.
func next(seed *uint64) uint64 {
	*seed = *seed*6364136223846793005 + 1442695040888963407
	return *seed >> 33
}

// someRanges are up to five, mostly right.
func someRanges(seed *uint64, base uint64) []api.Range {
	var l []api.Range
	n := base
	for range next(seed) % 6 {
		lo := n + next(seed)%4
		hi := lo + next(seed)%4
		l = append(l, to(lo, hi))
		n = hi + 2
	}
	if len(l) > 0 && next(seed)%4 == 0 {
		l[next(seed)%uint64(len(l))].Lo -= next(seed) % 3
	}
	return l
}

func TestLongRows(t *testing.T) {
	bases := []uint64{0, 1, 1 << 40, top - 30}
	for seed := range uint64(40) {
		b, p := New(), plain{}
		base := bases[seed%4]
		for range 150 {
			origin := int(next(&seed) % 10)
			switch next(&seed) % 12 {
			case 0:
				putBoth(t, b, p, origin, someRanges(&seed, base))
			case 1:
				other := b.Copy()
				other.Add(id(origin, base+next(&seed)%30))
				other.Put(origin, nil)
			case 2:
				b = b.Copy()
			default:
				addBoth(t, b, p, id(origin, base+next(&seed)%30))
			}
			wantPlain(t, "a long row", b, p)
		}
	}
}

func TestManyIds(t *testing.T) {
	b := New()
	const many = 2000
	for n := uint64(1); n <= many; n++ {
		for origin := 1; origin <= api.MaxSites; origin++ {
			if !b.Add(id(origin, 2*n)) {
				t.Fatalf("Add(%d, %d): false", origin, 2*n)
			}
		}
	}
	for origin := 1; origin <= api.MaxSites; origin++ {
		if b.Gaps(origin) != many || b.Low(origin) != 0 {
			t.Errorf("%d: Gaps %d, Low %d", origin, b.Gaps(origin), b.Low(origin))
		}
	}
	for n := uint64(1); n <= many; n++ {
		b.Add(id(5, 2*n-1))
	}
	if got := b.Ranges(5); !slices.Equal(got, []api.Range{to(1, 2*many)}) || b.Gaps(4) != many || b.Gaps(6) != many {
		t.Errorf("Ranges(5): %v; Gaps(4) %d, Gaps(6) %d", got, b.Gaps(4), b.Gaps(6))
	}
}

// A book is gone over from within; a walk may be left, and gone over again.
func TestAllMayBeLeft(t *testing.T) {
	b, _ := some(t)
	walk := b.all()
	for range 2 {
		for origin, set := range walk {
			if origin != 1 || !set.Has(3) {
				t.Errorf("the first one: %d", origin)
			}
			break
		}
	}
	var l []int
	for origin := range walk {
		l = append(l, origin)
		for inner := range walk {
			if inner == origin {
				break
			}
		}
	}
	if !slices.Equal(l, []int{1, 2, 5, 8}) {
		t.Errorf("all: %v", l)
	}
}

// R3

// scribble writes over a list and over the spare room behind it.
func scribble[T any](l []T, with T) {
	l = l[:cap(l)]
	for i := range l {
		l[i] = with
	}
}

func TestAnswersAreNewMemory(t *testing.T) {
	b, p := some(t)
	putBoth(t, b, p, 4, []api.Range{to(2, 3), to(5, 6), to(8, 9)})
	for range 2 {
		origins := b.Origins()
		scribble(b.Origins(), 77)
		for _, origin := range everyOrigin() {
			l := b.Ranges(origin)
			scribble(b.Ranges(origin), to(5, 0))
			if !slices.Equal(l, ranges(p[origin])) {
				t.Errorf("two answers of Ranges(%d) share memory", origin)
			}
			scribble(l, to(6, 0))
		}
		if !slices.Equal(origins, p.origins()) {
			t.Error("two answers of Origins share memory")
		}
		wantPlain(t, "behind a change of what it told", b, p)
	}
}

func TestAnswersStayAsTheyWere(t *testing.T) {
	b, p := some(t)
	origins, l := b.Origins(), b.Ranges(2)
	for _, i := range []api.Ident{id(2, 3), id(2, 8), id(2, 5), id(3, 1), id(2, 1)} {
		b.Add(i)
	}
	b.Put(5, nil)
	if !slices.Equal(origins, p.origins()) || !slices.Equal(l, ranges(p[2])) {
		t.Error("an answer changes with the book")
	}
}

func TestPutKeepsNoMemory(t *testing.T) {
	for n := range 4 {
		b, p := New(), plain{}
		room := []api.Range{to(2, 3), to(5, 6), to(8, 9), to(50, 51), to(60, 61)}
		before := slices.Clone(room)
		putBoth(t, b, p, 3, room[:n])
		putBoth(t, b, p, 4, room[:n])
		if !slices.Equal(room, before) {
			t.Fatalf("Put changed what it was handed: %v", room)
		}
		wantPlain(t, "put twice", b, p)
		// Adding within, ahead and behind would write into memory that was kept.
		for _, seq := range []uint64{1, 4, 7, 10, 20, 30, 40} {
			addBoth(t, b, p, id(3, seq))
			if !slices.Equal(room, before) {
				t.Fatalf("Add(3, %d) changed what Put was handed: %v", seq, room)
			}
		}
		wantPlain(t, "two origins of one list", b, p)
		scribble(room, to(9, 1))
		wantPlain(t, "behind a change of what it was handed", b, p)
	}
}

func TestPutRefusedChangesNoList(t *testing.T) {
	for what, l := range wrongs() {
		room := append(slices.Clone(l), to(70, 71))
		before := slices.Clone(room)
		b := New()
		b.Put(1, room[:len(l)])
		b.Put(0, room[:len(l)])
		b.Add(id(1, 3))
		if !slices.Equal(room, before) {
			t.Errorf("%s: Put changed what it was handed: %v", what, room)
		}
	}
}
