package topo

import (
	"fmt"
	"math"
	"slices"
	"testing"

	"staith/api"
)

// strange are numbers that are no site of any topology that may be.
var strange = []int{0, -1, -2, -8, 9, 10, 16, 257, 1<<32 + 1, math.MinInt, math.MinInt + 1, math.MaxInt - 1, math.MaxInt}

// everySite are all that may be somewhere, and strange ones.
func everySite() []int {
	return append([]int{1, 2, 3, 4, 5, 6, 7, 8}, strange...)
}

func edge(from, to int) api.Edge { return api.Edge{From: from, To: to} }

// world is a topology with the edges that pairs of numbers tell.
func world(sites, hops int, pairs ...int) api.Topology {
	t := api.Topology{Sites: sites, Hops: hops}
	for i := 0; i < len(pairs); i += 2 {
		t.Edges = append(t.Edges, edge(pairs[i], pairs[i+1]))
	}
	return t
}

// ring leads from each site to the next one, and from the last one to the first.
func ring(sites, hops int) api.Topology {
	t := row(sites, hops)
	t.Edges = append(t.Edges, edge(sites, 1))
	return t
}

// row leads from each site to the next one.
func row(sites, hops int) api.Topology {
	t := world(sites, hops)
	for site := 1; site < sites; site++ {
		t.Edges = append(t.Edges, edge(site, site+1))
	}
	return t
}

// both has each edge of t the other way around too.
func both(t api.Topology) api.Topology {
	edges := slices.Clone(t.Edges)
	for _, e := range t.Edges {
		edges = append(edges, edge(e.To, e.From))
	}
	return api.Topology{Sites: t.Sites, Edges: edges, Hops: t.Hops}
}

// full leads from each site to each other one.
func full(sites, hops int) api.Topology {
	t := world(sites, hops)
	for from := 1; from <= sites; from++ {
		for to := sites; to >= 1; to-- {
			if from != to {
				t.Edges = append(t.Edges, edge(from, to))
			}
		}
	}
	return t
}

// hopping is t with other hops.
func hopping(t api.Topology, hops int) api.Topology {
	t.Hops = hops
	return t
}

// plainGood goes by the chapter's words: each edge is looked for among all that can be, and counted.
func plainGood(t api.Topology) bool {
	counts := []int{0, 1, 2, 3, 4, 5, 6, 7, 8}
	if !slices.Contains(counts[1:], t.Sites) || !slices.Contains(counts, t.Hops) {
		return false
	}
	left := len(t.Edges)
	for from := 1; from <= t.Sites; from++ {
		for to := 1; to <= t.Sites; to++ {
			if from == to {
				continue
			}
			for _, e := range t.Edges {
				if e == edge(from, to) {
					left--
					break
				}
			}
		}
	}
	return left == 0
}

// plain is what a topology tells, reckoned ahead by going through each site in turn as a place on the way: no levels, no order of edges.
type plain struct {
	good  bool
	sites int
	hops  int
	next  map[int][]int
	far   map[api.Edge]int
}

func reckon(t api.Topology) plain {
	p := plain{good: plainGood(t), next: map[int][]int{}, far: map[api.Edge]int{}}
	if !p.good {
		return p
	}
	p.sites, p.hops = t.Sites, t.Hops
	for from := 1; from <= p.sites; from++ {
		p.far[edge(from, from)] = 0
		for to := 1; to <= p.sites; to++ {
			if slices.Contains(t.Edges, edge(from, to)) {
				p.next[from] = append(p.next[from], to)
				p.far[edge(from, to)] = 1
			}
		}
	}
	for over := 1; over <= p.sites; over++ {
		for from := 1; from <= p.sites; from++ {
			for to := 1; to <= p.sites; to++ {
				p.shorten(from, over, to)
			}
		}
	}
	return p
}

// shorten takes the way over a third site, if it is shorter than what there is.
func (p plain) shorten(from, over, to int) {
	a, is := p.far[edge(from, over)]
	b, goes := p.far[edge(over, to)]
	if !is || !goes {
		return
	}
	if n, had := p.far[edge(from, to)]; !had || a+b < n {
		p.far[edge(from, to)] = a + b
	}
}

func (p plain) farOf(from, to int) int {
	n, is := p.far[edge(from, to)]
	if !is {
		return -1
	}
	return n
}

func (p plain) within(origin int) []int {
	var l []int
	for site := 1; site <= p.sites; site++ {
		if n, is := p.far[edge(origin, site)]; is && n <= p.hops {
			l = append(l, site)
		}
	}
	return l
}

func (p plain) onward(origin, site int) []int {
	var l []int
	if n, is := p.far[edge(origin, site)]; !is || n >= p.hops {
		return l
	}
	for _, to := range p.next[site] {
		if to != origin {
			l = append(l, to)
		}
	}
	return l
}

// rounds counts down to the greatest way that somebody has to a site that is within.
func (p plain) rounds() int {
	for n := p.hops; n > 0; n-- {
		for _, far := range p.far {
			if far == n {
				return n
			}
		}
	}
	return 0
}

func wantSites(t *testing.T, what string, x api.Topology, got []int, want ...int) {
	t.Helper()
	if !slices.Equal(got, want) {
		t.Errorf("%s of %v: %v, want %v", what, x, got, want)
	}
}

func wantNumber(t *testing.T, what string, x api.Topology, got, want int) {
	t.Helper()
	if got != want {
		t.Errorf("%s of %v: %d, want %d", what, x, got, want)
	}
}

// wantPlain holds all that is told of a topology against the plain reckoning, for these numbers of sites and what they may be.
func wantPlain(t *testing.T, x api.Topology, sites []int) {
	t.Helper()
	p := reckon(x)
	if got := Good(x); got != p.good {
		t.Errorf("Good(%v): %v", x, got)
	}
	if got, want := Rounds(x), p.rounds(); got != want {
		t.Errorf("Rounds(%v): %d, want %d", x, got, want)
	}
	for _, a := range sites {
		if got, want := Next(x, a), p.next[a]; !slices.Equal(got, want) {
			t.Errorf("Next(%v, %d): %v, want %v", x, a, got, want)
		}
		if got, want := Within(x, a), p.within(a); !slices.Equal(got, want) {
			t.Errorf("Within(%v, %d): %v, want %v", x, a, got, want)
		}
		for _, b := range sites {
			if got, want := Far(x, a, b), p.farOf(a, b); got != want {
				t.Errorf("Far(%v, %d, %d): %d, want %d", x, a, b, got, want)
			}
			if got, want := Onward(x, a, b), p.onward(a, b); !slices.Equal(got, want) {
				t.Errorf("Onward(%v, %d, %d): %v, want %v", x, a, b, got, want)
			}
		}
	}
}

// wantNothing: what is told of a topology that is not good.
func wantNothing(t *testing.T, what string, x api.Topology) {
	t.Helper()
	if Good(x) {
		t.Errorf("%s: Good", what)
	}
	if n := Rounds(x); n != 0 {
		t.Errorf("%s: Rounds %d", what, n)
	}
	for _, a := range everySite() {
		if l := Next(x, a); len(l) != 0 {
			t.Errorf("%s: Next(%d): %v", what, a, l)
		}
		if l := Within(x, a); len(l) != 0 {
			t.Errorf("%s: Within(%d): %v", what, a, l)
		}
		for _, b := range everySite() {
			if n := Far(x, a, b); n != -1 {
				t.Errorf("%s: Far(%d, %d): %d", what, a, b, n)
			}
			if l := Onward(x, a, b); len(l) != 0 {
				t.Errorf("%s: Onward(%d, %d): %v", what, a, b, l)
			}
		}
	}
}

func TestExample(t *testing.T) {
	x := ring(3, 1)
	wantSites(t, "Within 1", x, Within(x, 1), 1, 2)
	wantSites(t, "Onward 1 2", x, Onward(x, 1, 2))
}

// The first of DOC.md's examples of the whole.
func TestExampleOfTheWhole(t *testing.T) {
	x := ring(3, 2)
	wantSites(t, "Within 1", x, Within(x, 1), 1, 2, 3)
	wantSites(t, "Onward 1 1", x, Onward(x, 1, 1), 2)
	wantSites(t, "Onward 1 2", x, Onward(x, 1, 2), 3)
	wantSites(t, "Onward 1 3", x, Onward(x, 1, 3))
}

func TestGoodBySites(t *testing.T) {
	for sites := 1; sites <= 8; sites++ {
		for _, x := range []api.Topology{world(sites, 3), row(sites, 3), full(sites, 3)} {
			if !Good(x) {
				t.Errorf("Good(%v): false", x)
			}
		}
	}
	for _, sites := range strange {
		wantNothing(t, fmt.Sprint(sites, " sites"), world(sites, 3))
		wantNothing(t, fmt.Sprint(sites, " sites and an edge"), world(sites, 3, 1, 2))
	}
}

func TestGoodByHops(t *testing.T) {
	for hops := 0; hops <= 8; hops++ {
		for _, x := range []api.Topology{world(1, hops), ring(2, hops), full(8, hops)} {
			if !Good(x) {
				t.Errorf("Good(%v): false", x)
			}
		}
	}
	for _, hops := range strange[1:] {
		wantNothing(t, fmt.Sprint(hops, " hops"), world(1, hops))
		wantNothing(t, fmt.Sprint(hops, " hops and edges"), ring(3, hops))
	}
}

func TestZeroTopology(t *testing.T) {
	wantNothing(t, "zero", api.Topology{})
	wantNothing(t, "no site", world(0, 1, 1, 2))
	wantNothing(t, "an edge from 0 to 0", world(0, 0, 0, 0))
}

func TestGoodByEnds(t *testing.T) {
	for sites := 1; sites <= 8; sites++ {
		bad := append([]int{sites + 1}, strange...)
		for _, n := range bad {
			for site := 1; site <= sites; site++ {
				for _, e := range []api.Edge{edge(n, site), edge(site, n), edge(n, n)} {
					for _, begin := range []api.Topology{world(sites, 8), row(sites, 8), full(sites, 8)} {
						for _, at := range []int{0, len(begin.Edges) / 2, len(begin.Edges)} {
							x := begin
							x.Edges = slices.Insert(slices.Clone(begin.Edges), at, e)
							if Good(x) {
								t.Fatalf("Good(%v): true", x)
							}
						}
					}
				}
			}
			wantNothing(t, fmt.Sprint("an edge to ", n), world(sites, 8, 1, n))
			wantNothing(t, fmt.Sprint("an edge from ", n), world(sites, 8, n, 1))
		}
	}
}

func TestGoodByItself(t *testing.T) {
	for sites := 1; sites <= 8; sites++ {
		for site := 1; site <= sites; site++ {
			wantNothing(t, "an edge to itself", world(sites, 8, site, site))
			x := full(sites, 8)
			x.Edges = append(x.Edges, edge(site, site))
			wantNothing(t, "an edge to itself behind all others", x)
		}
	}
}

func TestGoodByTwice(t *testing.T) {
	for name, x := range map[string]api.Topology{
		"side by side":          world(2, 1, 1, 2, 1, 2),
		"thrice":                world(2, 1, 1, 2, 1, 2, 1, 2),
		"the other way between": world(2, 1, 1, 2, 2, 1, 1, 2),
		"far apart":             world(8, 1, 8, 7, 1, 2, 2, 3, 3, 4, 4, 5, 5, 6, 6, 7, 7, 8, 8, 7),
		"in the middle":         world(4, 1, 1, 2, 3, 4, 3, 4, 4, 1),
	} {
		wantNothing(t, name, x)
	}
	whole := full(8, 8)
	if len(whole.Edges) != 56 || !Good(whole) {
		t.Fatalf("Good of all edges: false")
	}
	for _, e := range whole.Edges {
		x := whole
		x.Edges = append(slices.Clone(whole.Edges), e)
		if Good(x) {
			t.Errorf("Good with %v twice: true", e)
		}
	}
}

func TestGoodBothWays(t *testing.T) {
	for _, x := range []api.Topology{world(2, 0, 1, 2, 2, 1), world(8, 8, 8, 1, 1, 8), both(row(8, 3)), both(ring(8, 3))} {
		if !Good(x) {
			t.Errorf("Good(%v): false", x)
		}
	}
}

// Not more than one thing need be wrong, and several may be.
func TestGoodOfSeveralWrongs(t *testing.T) {
	for _, sites := range []int{0, -1, 9, math.MaxInt, math.MinInt} {
		for _, hops := range []int{-1, 9, math.MaxInt, math.MinInt} {
			for _, pairs := range [][]int{nil, {1, 2}, {1, 1}, {0, 0}, {math.MaxInt, math.MinInt}, {9, 10, 9, 10}} {
				wantNothing(t, fmt.Sprint(sites, hops, pairs), world(sites, hops, pairs...))
			}
		}
	}
}

func TestGoodOfAVeryLongList(t *testing.T) {
	x := world(8, 8)
	for range 1 << 20 {
		x.Edges = append(x.Edges, edge(1, 2))
	}
	wantNothing(t, "a long list", x)
}

// lists goes through all lists of up to n of these edges.
func lists(edges []api.Edge, n int, l []api.Edge, do func(l []api.Edge)) {
	do(l)
	if n == 0 {
		return
	}
	for _, e := range edges {
		lists(edges, n-1, append(l[:len(l):len(l)], e), do)
	}
}

func TestEachShortListOfEdges(t *testing.T) {
	var edges []api.Edge
	for from := range 4 {
		for to := range 4 {
			edges = append(edges, edge(from, to))
		}
	}
	for sites := 0; sites <= 3; sites++ {
		lists(edges, 3, nil, func(l []api.Edge) {
			wantPlain(t, api.Topology{Sites: sites, Edges: l, Hops: 2}, []int{0, 1, 2, 3, 4})
		})
	}
}

func TestNext(t *testing.T) {
	x := world(5, 0, 3, 5, 1, 5, 3, 1, 3, 4, 5, 2, 3, 2)
	wantSites(t, "Next with one", x, Next(x, 1), 5)
	wantSites(t, "Next with none", x, Next(x, 2))
	wantSites(t, "Next with all others", x, Next(x, 3), 1, 2, 4, 5)
	wantSites(t, "Next with none", x, Next(x, 4))
	wantSites(t, "Next with one", x, Next(x, 5), 2)
	for _, n := range append([]int{6, 7, 8}, strange...) {
		wantSites(t, fmt.Sprint("Next of ", n), x, Next(x, n))
	}
	y := full(8, 0)
	wantSites(t, "Next of the first", y, Next(y, 1), 2, 3, 4, 5, 6, 7, 8)
	wantSites(t, "Next of one", y, Next(y, 4), 1, 2, 3, 5, 6, 7, 8)
	wantSites(t, "Next of the last", y, Next(y, 8), 1, 2, 3, 4, 5, 6, 7)
}

// orders goes through all orders of l, from a place on.
func orders[T any](l []T, done int, do func(l []T)) {
	if done == len(l) {
		do(l)
		return
	}
	for i := done; i < len(l); i++ {
		l[done], l[i] = l[i], l[done]
		orders(l, done+1, do)
		l[done], l[i] = l[i], l[done]
	}
}

func TestInEachOrderOfEdges(t *testing.T) {
	for _, x := range []api.Topology{
		world(5, 3, 2, 1, 2, 3, 2, 4, 2, 5, 5, 1),
		world(6, 3, 1, 2, 2, 3, 3, 4, 4, 5, 5, 6, 1, 4),
		world(4, 2, 4, 3, 3, 2, 2, 1, 1, 4, 4, 1),
	} {
		orders(x.Edges, 0, func(l []api.Edge) {
			wantPlain(t, api.Topology{Sites: x.Sites, Edges: l, Hops: x.Hops}, []int{0, 1, 2, 3, 4, 5, 6, 7})
		})
	}
}

func TestFar(t *testing.T) {
	// Ways of 1, 2 and 3 edges from 1 to 4; 5 leads there, and nothing leads to 5; 6 is alone.
	x := world(6, 1, 1, 2, 2, 3, 3, 4, 1, 4, 2, 4, 5, 1)
	for _, c := range []struct{ from, to, want int }{
		{1, 1, 0}, {6, 6, 0},
		{1, 2, 1}, {2, 3, 1}, {5, 1, 1},
		{1, 4, 1}, {2, 4, 1}, {3, 4, 1},
		{1, 3, 2}, {5, 2, 2}, {5, 4, 2}, {5, 3, 3},
		{2, 1, -1}, {4, 1, -1}, {1, 5, -1}, {4, 3, -1},
		{1, 6, -1}, {6, 1, -1},
		{1, 7, -1}, {7, 1, -1}, {7, 7, -1}, {0, 0, -1}, {1, 0, -1}, {0, 1, -1},
	} {
		wantNumber(t, fmt.Sprint("Far ", c.from, " ", c.to), x, Far(x, c.from, c.to), c.want)
	}
	for _, n := range append([]int{7, 8}, strange...) {
		for site := 1; site <= 6; site++ {
			wantNumber(t, fmt.Sprint("Far ", n, " ", site), x, Far(x, n, site), -1)
			wantNumber(t, fmt.Sprint("Far ", site, " ", n), x, Far(x, site, n), -1)
		}
		wantNumber(t, fmt.Sprint("Far ", n, " ", n), x, Far(x, n, n), -1)
	}
}

// Hops bind who comes where, and not how far it is.
func TestFarIsAlikeForAllHops(t *testing.T) {
	for hops := 0; hops <= 8; hops++ {
		x := row(8, hops)
		for from := 1; from <= 8; from++ {
			for to := 1; to <= 8; to++ {
				want := to - from
				if want < 0 {
					want = -1
				}
				wantNumber(t, fmt.Sprint("Far ", from, " ", to), x, Far(x, from, to), want)
			}
		}
	}
}

// The edges of the longest way stand in the order of the way, and against it.
func TestFarAlongTheLongestWay(t *testing.T) {
	x := ring(8, 8)
	y := ring(8, 8)
	slices.Reverse(y.Edges)
	for _, z := range []api.Topology{x, y} {
		wantNumber(t, "Far 1 8", z, Far(z, 1, 8), 7)
		wantNumber(t, "Far 5 4", z, Far(z, 5, 4), 7)
		wantNumber(t, "Far 8 1", z, Far(z, 8, 1), 1)
		wantNumber(t, "Far 8 8", z, Far(z, 8, 8), 0)
		wantNumber(t, "Rounds", z, Rounds(z), 7)
	}
}

func TestWithin(t *testing.T) {
	for hops := 0; hops <= 8; hops++ {
		x := row(8, hops)
		for origin := 1; origin <= 8; origin++ {
			var want []int
			for site := origin; site <= min(8, origin+hops); site++ {
				want = append(want, site)
			}
			wantSites(t, fmt.Sprint("Within ", origin), x, Within(x, origin), want...)
		}
		for _, n := range strange {
			wantSites(t, fmt.Sprint("Within ", n), x, Within(x, n))
		}
	}
	x := world(4, 3, 4, 1, 1, 3)
	wantSites(t, "Within, one less than the farthest", hopping(x, 1), Within(hopping(x, 1), 4), 1, 4)
	wantSites(t, "Within, as far as the farthest", hopping(x, 2), Within(hopping(x, 2), 4), 1, 3, 4)
	wantSites(t, "Within, more", hopping(x, 3), Within(hopping(x, 3), 4), 1, 3, 4)
	wantSites(t, "Within of one that leads nowhere", x, Within(x, 3), 3)
	wantSites(t, "Within of one that is alone", x, Within(x, 2), 2)
	wantSites(t, "Within of no site", x, Within(x, 5))
}

func TestOnward(t *testing.T) {
	// From 1 to 2 and 3, from both to 4, from there to 5, and from all of them back to 1; 6 leads there, and nothing leads to 6.
	x := world(6, 2, 1, 2, 1, 3, 2, 4, 3, 4, 4, 5, 2, 1, 3, 1, 4, 1, 5, 1, 2, 3, 6, 1, 6, 2)
	for _, c := range []struct {
		what              string
		hops, origin, its int
		want              []int
	}{
		{"at the origin", 2, 1, 1, []int{2, 3}},
		{"at the origin, no hops", 0, 1, 1, nil},
		{"at the origin, one hop", 1, 1, 1, []int{2, 3}},
		{"just below", 2, 1, 2, []int{3, 4}},
		{"just below, all back but one", 2, 1, 3, []int{4}},
		{"as far as the hops", 1, 1, 2, nil},
		{"as far as the hops", 2, 1, 4, nil},
		{"just below", 3, 1, 4, []int{5}},
		{"leads to the origin alone", 4, 1, 5, nil},
		{"leads to another one's origin", 8, 4, 5, []int{1}},
		{"no way there", 8, 1, 6, nil},
		{"the origin that nothing leads to", 8, 6, 6, []int{1, 2}},
		{"beyond the hops", 1, 1, 4, nil},
		{"beyond the hops", 2, 1, 5, nil},
		{"no site", 8, 1, 7, nil},
		{"no origin", 8, 7, 1, nil},
		{"neither", 8, 7, 7, nil},
		{"neither", 8, 0, 0, nil},
	} {
		y := hopping(x, c.hops)
		wantSites(t, "Onward "+c.what, y, Onward(y, c.origin, c.its), c.want...)
	}
	for _, n := range append([]int{7, 8}, strange...) {
		for site := 1; site <= 6; site++ {
			wantSites(t, fmt.Sprint("Onward ", n, site), x, Onward(x, n, site))
			wantSites(t, fmt.Sprint("Onward ", site, n), x, Onward(x, site, n))
		}
	}
}

// Somebody is gone on to who was there already: each of those has been told along another edge.
func TestOnwardToWhoWasThere(t *testing.T) {
	x := full(4, 2)
	wantSites(t, "Onward 1 1", x, Onward(x, 1, 1), 2, 3, 4)
	wantSites(t, "Onward 1 2", x, Onward(x, 1, 2), 3, 4)
	wantSites(t, "Onward 1 3", x, Onward(x, 1, 3), 2, 4)
	wantSites(t, "Onward 1 4", x, Onward(x, 1, 4), 2, 3)
	y := full(4, 1)
	wantSites(t, "Onward 1 1", y, Onward(y, 1, 1), 2, 3, 4)
	wantSites(t, "Onward 1 2", y, Onward(y, 1, 2))
}

func TestRounds(t *testing.T) {
	for hops := 0; hops <= 8; hops++ {
		for _, c := range []struct {
			x    api.Topology
			most int
		}{
			{world(1, hops), 0},
			{world(8, hops), 0},
			{ring(2, hops), 1},
			{ring(3, hops), 2},
			{ring(8, hops), 7},
			{both(ring(8, hops)), 4},
			{both(ring(7, hops)), 3},
			{row(2, hops), 1},
			{row(8, hops), 7},
			{both(row(8, hops)), 7},
			{full(8, hops), 1},
			{world(8, hops, 1, 2, 3, 4, 4, 5, 6, 7, 7, 8, 8, 6), 2},
			{world(8, hops, 5, 6, 6, 7, 7, 8, 1, 2), 3},
			{world(8, hops, 8, 1), 1},
		} {
			wantNumber(t, "Rounds", c.x, Rounds(c.x), min(c.most, hops))
		}
	}
}

// What is farther than the hops counts for nothing, though others are just as far as they.
func TestRoundsBelowTheHops(t *testing.T) {
	x := world(7, 2, 1, 2, 2, 3, 3, 4, 4, 5, 6, 7)
	wantNumber(t, "Far", x, Far(x, 1, 5), 4)
	wantNumber(t, "Rounds", x, Rounds(x), 2)
}

// edgesOf are all edges that can be between sites.
func edgesOf(sites int) []api.Edge {
	return full(sites, 0).Edges
}

// chosen is the topology with those edges that bits tell.
func chosen(sites, hops int, bits uint64) api.Topology {
	t := world(sites, hops)
	for i, e := range edgesOf(sites) {
		if bits>>i&1 == 1 {
			t.Edges = append(t.Edges, e)
		}
	}
	return t
}

// eachSmall goes through every topology of up to 4 sites.
func eachSmall(do func(x api.Topology)) {
	for sites := 1; sites <= 4; sites++ {
		for bits := range uint64(1) << len(edgesOf(sites)) {
			for _, hops := range []int{0, 1, 2, 3, 4, 8} {
				do(chosen(sites, hops, bits))
			}
		}
	}
}

func next(seed *uint64) uint64 {
	*seed = *seed*6364136223846793005 + 1442695040888963407
	return *seed >> 33
}

// shuffled is l in some order.
func shuffled(seed *uint64, l []api.Edge) []api.Edge {
	l = slices.Clone(l)
	for i := range l {
		j := i + int(next(seed)%uint64(len(l)-i))
		l[i], l[j] = l[j], l[i]
	}
	return l
}

// eachOfMany goes through many topologies of 5 to MaxSites sites, from few edges to nearly all.
func eachOfMany(do func(x api.Topology)) {
	seed := uint64(1)
	for i := range 4000 {
		sites := 5 + i%4
		edges := shuffled(&seed, edgesOf(sites))
		few := next(&seed) % uint64(len(edges)+1)
		if i%3 > 0 {
			few = next(&seed) % uint64(2*sites)
		}
		do(api.Topology{Sites: sites, Edges: edges[:few:few], Hops: int(next(&seed) % 9)})
	}
}

func TestEachSmallTopology(t *testing.T) {
	eachSmall(func(x api.Topology) {
		wantPlain(t, x, []int{0, 1, 2, 3, 4, 5})
	})
}

func TestManyTopologies(t *testing.T) {
	eachOfMany(func(x api.Topology) {
		wantPlain(t, x, []int{-1, 0, 1, 2, 3, 4, 5, 6, 7, 8, 9})
	})
}

// A topology with one thing wrong in it tells nothing, wherever it is wrong.
func TestManyTopologiesMadeWrong(t *testing.T) {
	seed := uint64(2)
	eachOfMany(func(x api.Topology) {
		wrongs := []api.Edge{edge(0, 1), edge(1, 0), edge(x.Sites+1, 1), edge(1, x.Sites+1), edge(2, 2)}
		if len(x.Edges) > 0 {
			wrongs = append(wrongs, x.Edges[next(&seed)%uint64(len(x.Edges))])
		}
		wrong := wrongs[next(&seed)%uint64(len(wrongs))]
		at := int(next(&seed) % uint64(len(x.Edges)+1))
		y := api.Topology{Sites: x.Sites, Edges: slices.Insert(slices.Clone(x.Edges), at, wrong), Hops: x.Hops}
		if plainGood(y) {
			t.Fatalf("%v is good", y)
		}
		wantPlain(t, y, []int{0, 1, 2, 3, 8, 9})
	})
}

// goes is who goes onward from the origin on: who comes where, and how often each edge is gone along. Who was there already goes on no more. last: the one that came last goes first.
func goes(x api.Topology, origin int, last bool) (sites []int, along map[api.Edge]int) {
	along = map[api.Edge]int{}
	sites = []int{origin}
	wait := []int{origin}
	for len(wait) > 0 {
		at := 0
		if last {
			at = len(wait) - 1
		}
		site := wait[at]
		wait = slices.Delete(wait, at, at+1)
		for _, to := range Onward(x, origin, site) {
			along[edge(site, to)]++
			if !slices.Contains(sites, to) {
				sites = append(sites, to)
				wait = append(wait, to)
			}
		}
	}
	slices.Sort(sites)
	return sites, along
}

// wantGoing is P10.3, for each origin, in whichever order those that wait go on.
func wantGoing(t *testing.T, x api.Topology) {
	t.Helper()
	p := reckon(x)
	for origin := 1; origin <= x.Sites; origin++ {
		for _, last := range []bool{false, true} {
			sites, along := goes(x, origin, last)
			wantSites(t, fmt.Sprint("who goes onward from ", origin), x, sites, Within(x, origin)...)
			gone := 0
			for _, e := range x.Edges {
				want := 0
				if far := p.farOf(origin, e.From); 0 <= far && far < x.Hops && e.To != origin {
					want = 1
				}
				if along[e] != want {
					t.Errorf("%v from %d: %v is gone along %d times, want %d", x, origin, e, along[e], want)
				}
				gone += along[e]
			}
			all := 0
			for _, n := range along {
				all += n
			}
			if all != gone {
				t.Errorf("%v from %d: gone along what is no edge: %v", x, origin, along)
			}
		}
	}
}

func TestGoingOnward(t *testing.T) {
	for hops := 0; hops <= 8; hops++ {
		for _, x := range []api.Topology{world(1, hops), ring(8, hops), row(8, hops), both(ring(8, hops)), both(row(8, hops)), full(8, hops)} {
			wantGoing(t, x)
		}
	}
	eachSmall(func(x api.Topology) { wantGoing(t, x) })
	eachOfMany(func(x api.Topology) { wantGoing(t, x) })
}

// scribble writes over a list, and over the room behind it.
func scribble[T any](l []T, with T) {
	l = l[:cap(l)]
	for i := range l {
		l[i] = with
	}
}

func TestAnswersAreNewMemory(t *testing.T) {
	calls := map[string]func(x api.Topology) []int{
		"Next":         func(x api.Topology) []int { return Next(x, 2) },
		"Within":       func(x api.Topology) []int { return Within(x, 2) },
		"Onward":       func(x api.Topology) []int { return Onward(x, 1, 2) },
		"Onward first": func(x api.Topology) []int { return Onward(x, 2, 2) },
	}
	for name, call := range calls {
		for _, x := range []api.Topology{full(8, 8), full(3, 2), both(ring(8, 4)), row(5, 2)} {
			first, second := call(x), call(x)
			want := slices.Clone(first)
			if len(want) == 0 {
				t.Fatalf("%s of %v: nothing", name, x)
			}
			scribble(first, 77)
			wantSites(t, name+" told ahead", x, second, want...)
			wantSites(t, name+" told behind", x, call(x), want...)
			wantPlain(t, x, []int{1, 2, 3, 8})
		}
	}
}

// roomy is t with edges that have room behind their end, in which something lies.
func roomy(x api.Topology) (api.Topology, []api.Edge) {
	room := append(slices.Clone(x.Edges), edge(1, 5), edge(-7, 9), edge(3, 3))
	x.Edges = room[:len(x.Edges)]
	return x, room
}

func TestNoCallChangesWhatIsHandedIn(t *testing.T) {
	for name, x := range map[string]api.Topology{
		"full":     full(5, 2),
		"falling":  world(5, 3, 5, 4, 5, 1, 5, 3, 4, 2, 1, 2, 2, 5),
		"none":     world(5, 3),
		"twice":    world(5, 3, 5, 4, 1, 2, 5, 4),
		"no sites": world(0, 3, 5, 4, 1, 2),
		"itself":   world(5, 3, 5, 4, 2, 2, 1, 2),
	} {
		y, room := roomy(x)
		want := slices.Clone(room)
		Good(y)
		Rounds(y)
		for _, a := range everySite() {
			scribble(Next(y, a), 77)
			scribble(Within(y, a), 77)
			for _, b := range everySite() {
				Far(y, a, b)
				scribble(Onward(y, a, b), 77)
			}
		}
		if !slices.Equal(room, want) {
			t.Errorf("%s: the edges are %v, want %v", name, room, want)
		}
		wantPlain(t, y, []int{0, 1, 2, 3, 4, 5, 6})
	}
}

// A caller may change its edges behind a call: what was told stays, and what is told then is of the new ones.
func TestNothingIsKept(t *testing.T) {
	x := world(4, 3, 1, 2, 2, 3)
	next, within, onward := Next(x, 1), Within(x, 1), Onward(x, 1, 2)
	wantNumber(t, "Far", x, Far(x, 1, 3), 2)
	x.Edges[0], x.Edges[1] = edge(1, 4), edge(4, 2)
	wantSites(t, "Next as it was", x, next, 2)
	wantSites(t, "Within as it was", x, within, 1, 2, 3)
	wantSites(t, "Onward as it was", x, onward, 3)
	wantNumber(t, "Far", x, Far(x, 1, 3), -1)
	wantSites(t, "Next", x, Next(x, 1), 4)
	wantSites(t, "Within", x, Within(x, 1), 1, 2, 4)
	wantSites(t, "Onward", x, Onward(x, 1, 4), 2)
}

// nil and empty lists of edges are the same.
func TestNoEdges(t *testing.T) {
	for _, edges := range [][]api.Edge{nil, {}} {
		x := api.Topology{Sites: 2, Edges: edges, Hops: 1}
		if !Good(x) {
			t.Errorf("Good(%v): false", x)
		}
		wantPlain(t, x, everySite())
	}
}
