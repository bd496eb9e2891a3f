package route

import (
	"math"
	"regexp"
	"slices"
	"strconv"
	"strings"
	"testing"

	"staith/api"
	"staith/bind"
)

// What names, keys and patterns are, told anew.
var (
	nameForm    = regexp.MustCompile(`\A[a-z0-9_-]{1,20}\z`)
	keyForm     = regexp.MustCompile(`\A([a-z0-9_-]+(\.[a-z0-9_-]+){0,11})?\z`)
	patternForm = regexp.MustCompile(`\A(([a-z0-9_-]+|[*#])(\.([a-z0-9_-]+|[*#])){0,11})?\z`)
)

func isKey(s string) bool { return len(s) <= 60 && keyForm.MatchString(s) }

func isPattern(s string) bool { return len(s) <= 60 && patternForm.MatchString(s) }

func wordsOf(s string) []string {
	if s == "" {
		return nil
	}
	return strings.Split(s, ".")
}

// stands tries out how many words each # may stand for.
func stands(words, pattern []string) bool {
	if len(pattern) == 0 {
		return len(words) == 0
	}
	if pattern[0] == "#" {
		for n := range len(words) + 1 {
			if stands(words[n:], pattern[1:]) {
				return true
			}
		}
		return false
	}
	return len(words) > 0 && (pattern[0] == "*" || pattern[0] == words[0]) && stands(words[1:], pattern[1:])
}

func plainFits(x api.Exchange, pattern, key string) bool {
	if !nameForm.MatchString(x.Name) || x.Kind < 1 || x.Kind > 3 || !isKey(key) {
		return false
	}
	return x.Kind == 1 && pattern == key || x.Kind == 2 && pattern == "" ||
		x.Kind == 3 && isPattern(pattern) && stands(wordsOf(key), wordsOf(pattern))
}

// plain is exchanges and bindings in lists, as they came: what calls on a table of them are held against.
type plain struct {
	exchanges []api.Exchange
	bindings  []api.Binding
}

func (p *plain) queues(exchange, key string) []string {
	var l []string
	for _, x := range p.exchanges {
		for _, b := range p.bindings {
			if x.Name == exchange && b.Exchange == exchange && plainFits(x, b.Pattern, key) {
				l = put(l, b.Queue)
			}
		}
	}
	return l
}

func (p *plain) who(queue string) []string {
	var l []string
	for _, b := range p.bindings {
		if b.Queue == queue {
			l = put(l, b.Exchange)
		}
	}
	return l
}

// put lays a name at its place among names that rise, if it is not there.
func put(l []string, name string) []string {
	at := 0
	for at < len(l) && l[at] < name {
		at++
	}
	if at < len(l) && l[at] == name {
		return l
	}
	return slices.Insert(l, at, name)
}

// table is one with all that p has, put there in p's order.
func (p *plain) table(t *testing.T) *bind.Table {
	t.Helper()
	tb := bind.New()
	for _, x := range p.exchanges {
		if err := tb.Declare(x); err != api.OK {
			t.Fatalf("%v: %v", x, err)
		}
	}
	for _, b := range p.bindings {
		if err := tb.Bind(b); err != api.OK {
			t.Fatalf("%v: %v", b, err)
		}
	}
	return tb
}

// and is p with bindings more.
func (p *plain) and(more ...api.Binding) *plain {
	return &plain{exchanges: p.exchanges, bindings: append(slices.Clone(p.bindings), more...)}
}

func ex(name string, kind int, federated bool) api.Exchange {
	return api.Exchange{Name: name, Kind: kind, Federated: federated}
}

func bi(exchange, queue, pattern string) api.Binding {
	return api.Binding{Exchange: exchange, Queue: queue, Pattern: pattern}
}

// three is one exchange of each kind, d, f and o, with no bindings.
func three() *plain {
	return &plain{exchanges: []api.Exchange{ex("o", api.Topic, true), ex("d", api.Direct, false), ex("f", api.Fanout, true)}}
}

func wantNames(t *testing.T, what any, got []string, want ...string) {
	t.Helper()
	if !slices.Equal(got, want) {
		t.Errorf("%v: %q, want %q", what, got, want)
	}
}

// wantPlain holds Queues and Who of a table against a plain one, for all names and keys that the tests take.
func wantPlain(t *testing.T, tb *bind.Table, p *plain) {
	t.Helper()
	for _, exchange := range exchangeTexts() {
		for _, key := range keyTexts() {
			if got, want := Queues(tb, exchange, key), p.queues(exchange, key); !slices.Equal(got, want) {
				t.Fatalf("%v: Queues(%q, %q): %q, want %q", p, exchange, key, got, want)
			}
		}
	}
	for _, queue := range queueTexts() {
		if got, want := Who(tb, queue), p.who(queue); !slices.Equal(got, want) {
			t.Fatalf("%v: Who(%q): %q, want %q", p, queue, got, want)
		}
	}
}

// Exchanges that may be there, and that may not.
func exchangeTexts() []string {
	return []string{"o", "d", "f", "o2", "no", "", "O", "o.d", "*", "#"}
}

func queueTexts() []string {
	return []string{"q", "a", "b9", "z-", "_", "-", "no", "", "Q", "q.a", "*", "#", "\xff"}
}

func keyTexts() []string {
	return []string{"", "a", "b", "a.b", "b.a", "a.a", "a.b.c", "-", "*", "#", "a.*", ".", "a.", ".a", "a..b", "A", "\xff", "a b"}
}

// Texts of all sorts, as patterns and as keys.
func texts() []string {
	return []string{
		"", "a", "b", "a.b", "b.a", "a.b.c", "a.a.a", "aa", "0", "-_", "*", "#", "*.*", "a.*", "*.a", "a.#", "#.a", "#.#", "*.#", "#.*", "a.*.#", "#.b.#",
		".", "a.", ".a", "a..b", "A", "a.B", "a*", "#a", "a b", "\xff", "é", "**", "##", "a.*b", "a\n", "\x00",
		strings.Repeat("k", 60), strings.Repeat("k", 61), strings.Repeat("a.", 11) + "a", strings.Repeat("a.", 12) + "a",
		strings.Repeat("#.", 11) + "#", strings.Repeat("#.", 12) + "#", strings.Repeat("*.", 11) + "*", strings.Repeat("*.", 11) + "#",
		strings.Repeat("#.", 11) + "a", strings.Repeat("k", 58) + ".#", strings.Repeat("k", 59) + ".#",
		strings.Repeat("*", 5000), strings.Repeat("a.", 5000), strings.Repeat("a", 5000),
	}
}

// next is a number in no plain order.
func next(seed *uint64) uint64 {
	*seed = *seed*6364136223846793005 + 1442695040888963407
	return *seed >> 33
}

func pick[T any](seed *uint64, l []T) T { return l[next(seed)%uint64(len(l))] }

// random is a table of exchanges and bindings that may be, in no order.
func random(seed *uint64) *plain {
	p := &plain{}
	for _, name := range []string{"o2", "f", "d", "o"} {
		if next(seed)%5 > 0 {
			p.exchanges = append(p.exchanges, ex(name, int(1+next(seed)%3), next(seed)%2 == 0))
		}
	}
	for range next(seed) % 24 {
		if b, is := randomBinding(seed, p.exchanges); is && !slices.Contains(p.bindings, b) {
			p.bindings = append(p.bindings, b)
		}
	}
	return p
}

// randomBinding leads from one of the exchanges; false, if there is none.
func randomBinding(seed *uint64, exchanges []api.Exchange) (api.Binding, bool) {
	if len(exchanges) == 0 {
		return api.Binding{}, false
	}
	x := pick(seed, exchanges)
	b := bi(x.Name, pick(seed, []string{"z-", "q", "b9", "a", "_"}), "")
	switch x.Kind {
	case api.Direct:
		b.Pattern = pick(seed, []string{"", "a", "b", "a.b", "b.a"})
	case api.Topic:
		b.Pattern = pick(seed, []string{"", "a", "a.b", "*", "#", "a.*", "a.#", "#.a", "*.a", "*.*", "#.b.#"})
	}
	return b, true
}

// P8.1

func TestFitsOfTexts(t *testing.T) {
	for kind := 1; kind <= 3; kind++ {
		for _, pattern := range texts() {
			for _, key := range texts() {
				for _, federated := range []bool{false, true} {
					x := ex("x", kind, federated)
					if got, want := Fits(x, pattern, key), plainFits(x, pattern, key); got != want {
						t.Errorf("Fits(%v, %q, %q): %v", x, pattern, key, got)
					}
				}
			}
		}
	}
}

func TestFitsByKinds(t *testing.T) {
	for _, c := range []struct {
		kind         int
		pattern, key string
		want         bool
	}{
		{api.Direct, "a", "a", true}, {api.Direct, "a.b", "a.b", true}, {api.Direct, "", "", true},
		{api.Direct, "a", "b", false}, {api.Direct, "a", "", false}, {api.Direct, "", "a", false},
		{api.Direct, "#", "a", false}, {api.Direct, "*", "a", false}, {api.Direct, "#", "", false}, {api.Direct, "a.*", "a.b", false},
		{api.Direct, "#", "#", false}, {api.Direct, "a..b", "a..b", false}, {api.Direct, "A", "A", false},
		{api.Fanout, "", "", true}, {api.Fanout, "", "a", true}, {api.Fanout, "", "a.b.c", true}, {api.Fanout, "", strings.Repeat("k", 60), true},
		{api.Fanout, "", strings.Repeat("k", 61), false}, {api.Fanout, "", "#", false}, {api.Fanout, "", "a..b", false},
		{api.Fanout, "a", "a", false}, {api.Fanout, "#", "a", false}, {api.Fanout, "*", "a", false}, {api.Fanout, "A", "", false},
		{api.Topic, "a.*.#", "a.b", true}, {api.Topic, "a.*.#", "a.b.c.d", true}, {api.Topic, "a.*.#", "a", false},
		{api.Topic, "#", "", true}, {api.Topic, "", "", true}, {api.Topic, "*", "", false}, {api.Topic, "", "a", false},
		{api.Topic, "#", "a.b", true}, {api.Topic, "*", "a.b", false}, {api.Topic, "a.b", "a.b", true}, {api.Topic, "a.b", "a.c", false},
		{api.Topic, "#", "#", false}, {api.Topic, "*", "*", false}, {api.Topic, "a..b", "a..b", false}, {api.Topic, "A", "A", false},
	} {
		for _, federated := range []bool{false, true} {
			if got := Fits(ex("x", c.kind, federated), c.pattern, c.key); got != c.want {
				t.Errorf("Fits(%d, %q, %q): %v", c.kind, c.pattern, c.key, got)
			}
		}
	}
}

func TestFitsOfAllShortTexts(t *testing.T) {
	patterns, keys := joined([]string{"a", "b", "*", "#", "A", ""}, 3), joined([]string{"a", "b", "*", ""}, 3)
	for kind := 1; kind <= 3; kind++ {
		x := ex("x", kind, kind == 2)
		for _, pattern := range patterns {
			for _, key := range keys {
				if got, want := Fits(x, pattern, key), plainFits(x, pattern, key); got != want {
					t.Fatalf("Fits(%v, %q, %q): %v", x, pattern, key, got)
				}
			}
		}
	}
}

// joined are all texts of up to count of these words, with dots between.
func joined(words []string, count int) []string {
	all, last := []string{""}, []string{""}
	for n := range count {
		var l []string
		for _, s := range last {
			for _, w := range words {
				if n > 0 {
					w = s + "." + w
				}
				l = append(l, w)
			}
		}
		all, last = append(all, l...), l
	}
	return all
}

func TestFitsOfExchangesThatAreNotGood(t *testing.T) {
	kinds := []int{math.MinInt, -1, 0, 1, 2, 3, 4, 5, 1<<32 + 1, 1<<32 + 3, math.MaxInt}
	names := []string{"x", "0", "-", strings.Repeat("n", 20), "", "X", "x.y", "#", "*", "x ", "\xff", "é", strings.Repeat("n", 21), strings.Repeat("n", 5000)}
	for _, kind := range kinds {
		for _, name := range names {
			for _, federated := range []bool{false, true} {
				good := kind >= 1 && kind <= 3 && nameForm.MatchString(name)
				x := ex(name, kind, federated)
				if got := Fits(x, "", ""); got != good {
					t.Errorf("Fits(%v, empty, empty): %v", x, got)
				}
				if got := Fits(x, "a", "a"); got != (good && kind != api.Fanout) {
					t.Errorf("Fits(%v, a, a): %v", x, got)
				}
				for _, key := range []string{"#", "a..b", "A", "\xff"} {
					if Fits(x, key, key) || Fits(x, "", key) {
						t.Errorf("Fits(%v) of the key %q", x, key)
					}
				}
			}
		}
	}
}

// P8.2

func TestExample(t *testing.T) {
	p := &plain{exchanges: []api.Exchange{ex("x", api.Topic, false)}, bindings: []api.Binding{bi("x", "q", "#"), bi("x", "q", "a")}}
	wantNames(t, "key a", Queues(p.table(t), "x", "a"), "q")
	wantNames(t, "key b", Queues(p.table(t), "x", "b"), "q")
	wantNames(t, "Who", Who(p.table(t), "q"), "x")
}

func TestQueuesOfEachKind(t *testing.T) {
	tb := three().and(
		bi("d", "z", "a"), bi("d", "q", "a"), bi("d", "a", "b"), bi("d", "e", ""),
		bi("f", "w", ""), bi("f", "b", ""), bi("f", "q", ""),
		bi("o", "s", "a.*"), bi("o", "q", "#"), bi("o", "q", "a.*"), bi("o", "c", "a"), bi("o", "e", ""), bi("o", "s", "*.b"),
	).table(t)
	for _, c := range []struct {
		exchange, key string
		want          []string
	}{
		{"d", "a", []string{"q", "z"}}, {"d", "b", []string{"a"}}, {"d", "", []string{"e"}}, {"d", "a.b", nil}, {"d", "c", nil},
		{"f", "a", []string{"b", "q", "w"}}, {"f", "", []string{"b", "q", "w"}}, {"f", "a.b.c", []string{"b", "q", "w"}},
		{"o", "a.b", []string{"q", "s"}}, {"o", "a", []string{"c", "q"}}, {"o", "", []string{"e", "q"}}, {"o", "x.y.z", []string{"q"}}, {"o", "c.b", []string{"q", "s"}},
		{"d", "A", nil}, {"f", "A", nil}, {"o", "A", nil}, {"d", "#", nil}, {"f", "#", nil}, {"o", "#", nil}, {"o", "*", nil}, {"o", "a.*", nil},
		{"f", "a..b", nil}, {"f", strings.Repeat("k", 60), []string{"b", "q", "w"}}, {"f", strings.Repeat("k", 61), nil}, {"f", strings.Repeat("k", 5000), nil},
		{"o", strings.Repeat("k", 60), []string{"q"}}, {"o", strings.Repeat("k", 61), nil},
		{"o", strings.Repeat("a.", 11) + "a", []string{"q"}}, {"o", strings.Repeat("a.", 12) + "a", nil},
		{"no", "a", nil}, {"", "a", nil}, {"O", "a", nil}, {"#", "a", nil}, {"no", "", nil}, {"", "", nil}, {"q", "a", nil},
	} {
		wantNames(t, c.exchange+" "+c.key, Queues(tb, c.exchange, c.key), c.want...)
	}
}

func TestQueuesOfNoBindings(t *testing.T) {
	for _, tb := range []*bind.Table{bind.New(), three().table(t)} {
		wantPlain(t, tb, &plain{})
	}
	// Bindings that are gone, with their exchange or without it, do not count.
	tb := three().and(bi("d", "q", "a"), bi("f", "q", ""), bi("o", "q", "#"), bi("o", "a", "a")).table(t)
	tb.Drop("f")
	tb.Unbind(bi("d", "q", "a"))
	tb.Forget("a")
	wantPlain(t, tb, &plain{exchanges: []api.Exchange{ex("o", api.Topic, true), ex("d", api.Direct, false)}, bindings: []api.Binding{bi("o", "q", "#")}})
	// Nor do they, if an exchange of that name is there anew.
	tb.Declare(ex("f", api.Topic, false))
	wantNames(t, "f anew", Queues(tb, "f", ""))
}

func TestQueuesInAnyOrderOfBinding(t *testing.T) {
	bindings := []api.Binding{bi("o", "q", "#"), bi("o", "q", "a"), bi("o", "b9", "a"), bi("f", "_", ""), bi("o", "-", "*")}
	count := 0
	orders(bindings, func(l []api.Binding) {
		count++
		tb := three().and(l...).table(t)
		wantNames(t, l, Queues(tb, "o", "a"), "-", "b9", "q")
		wantNames(t, l, Queues(tb, "o", ""), "q")
		wantNames(t, l, Queues(tb, "f", "a"), "_")
		wantNames(t, l, Who(tb, "q"), "o")
	})
	if count != 120 {
		t.Fatalf("%d orders", count)
	}
}

// orders calls each with each order of a list.
func orders[T any](l []T, each func(l []T)) {
	var from func(i int)
	from = func(i int) {
		if i == len(l) {
			each(l)
			return
		}
		for j := i; j < len(l); j++ {
			l[i], l[j] = l[j], l[i]
			from(i + 1)
			l[i], l[j] = l[j], l[i]
		}
	}
	from(0)
}

func TestQueuesOfAFullTable(t *testing.T) {
	p := &plain{}
	for i := range api.MaxExchanges {
		p.exchanges = append(p.exchanges, ex("e"+strconv.Itoa(i), api.Topic, i%2 == 0))
	}
	var want, who []string
	for i := range api.MaxBindings {
		// The names go down as numbers go up, and 9 is behind 10 by bytes.
		p.bindings = append(p.bindings, bi("e0", "q"+strconv.Itoa(api.MaxBindings-i), "#"))
		want = put(want, "q"+strconv.Itoa(i+1))
	}
	wantNames(t, "all of one exchange", Queues(p.table(t), "e0", "a.b"), want...)
	wantNames(t, "another one", Queues(p.table(t), "e1", "a.b"))
	for i := range p.bindings {
		p.bindings[i] = bi("e"+strconv.Itoa(7-i%8), "q", "a"+strconv.Itoa(i))
	}
	for i := range api.MaxExchanges {
		who = append(who, "e"+strconv.Itoa(i))
	}
	wantNames(t, "all exchanges", Who(p.table(t), "q"), who...)
	wantNames(t, "one key", Queues(p.table(t), "e7", "a0"), "q")
}

func TestWho(t *testing.T) {
	tb := three().and(
		bi("o", "q", "#"), bi("o", "q", "a"), bi("o", "q", ""), bi("f", "q", ""), bi("d", "q", "a"), bi("d", "q", "b"),
		bi("f", "a", ""), bi("o", "b", "a"), bi("o", "b", "b"), bi("o", "c", "a"), bi("d", "c", "a"),
	).table(t)
	for queue, want := range map[string][]string{
		"q": {"d", "f", "o"}, "a": {"f"}, "b": {"o"}, "c": {"d", "o"}, "no": nil, "": nil, "Q": nil, "o": nil, "#": nil, "q.a": nil, "\xff": nil,
		strings.Repeat("q", 21): nil, strings.Repeat("q", 5000): nil,
	} {
		wantNames(t, queue, Who(tb, queue), want...)
	}
}

func TestManyTables(t *testing.T) {
	seed := uint64(8)
	for range 1500 {
		p := random(&seed)
		wantPlain(t, p.table(t), p)
	}
}

func TestSame(t *testing.T) {
	base := three().and(bi("o", "q", "a.*"), bi("o", "b", "c"), bi("d", "q", "a"), bi("f", "q", ""))
	one := base.table(t)
	// It leads otherwise from o at c.d alone.
	other := base.and(bi("o", "b", "c.d"), bi("d", "z", "z")).table(t)
	less := (&plain{exchanges: []api.Exchange{ex("o", api.Topic, false)}, bindings: []api.Binding{bi("o", "q", "a.*")}}).table(t)
	for _, c := range []struct {
		what     string
		a, b     *bind.Table
		exchange string
		keys     []string
		want     bool
	}{
		{"one table", one, one, "o", []string{"", "a", "a.b", "c", "c.d"}, true},
		{"alike", one, base.table(t), "o", []string{"", "a", "a.b", "c", "c.d"}, true},
		{"a copy", one, one.Copy(), "d", []string{"", "a", "a.b"}, true},
		{"that key alone", one, other, "o", []string{"c.d"}, false},
		{"that key first", one, other, "o", []string{"c.d", "a.b", "c"}, false},
		{"that key between", one, other, "o", []string{"a.b", "c.d", "c"}, false},
		{"that key last", one, other, "o", []string{"a.b", "c", "c.d"}, false},
		{"that key twice", one, other, "o", []string{"c.d", "c.d"}, false},
		{"not that key", one, other, "o", []string{"", "a", "a.b", "c", "c.e", "c.d.e", "d"}, true},
		{"at d", one, other, "d", []string{"c.d", "a"}, true},
		{"at d, too", one, other, "d", []string{"a", "z"}, false},
		{"at f", one, other, "f", []string{"c.d", "z", ""}, true},
		{"no keys", one, other, "o", nil, true},
		{"empty keys", one, other, "o", []string{}, true},
		{"keys that are none", one, other, "o", []string{"#", "*", "a..b", "C.D", "c.d.", "\xff"}, true},
		{"keys that are none, and that one", one, other, "o", []string{"#", "c.d"}, false},
		{"federated or not", one, less, "o", []string{"a.b", "", "a"}, true},
		{"less", one, less, "o", []string{"a.b", "c"}, false},
		{"d in one of them", one, less, "d", []string{"a"}, false},
		{"d in one of them, at a key that leads nowhere", one, less, "d", []string{"b"}, true},
		{"f in one of them", one, less, "f", []string{"b"}, false},
		{"f in one of them, no keys", one, less, "f", nil, true},
		{"in none", one, other, "no", []string{"a", "c.d", ""}, true},
		{"a name that is none", one, other, "", []string{"a", "c.d", ""}, true},
		{"an empty one", one, bind.New(), "o", []string{"", "b"}, true},
		{"an empty one, and a key that leads", one, bind.New(), "o", []string{"", "c"}, false},
	} {
		if got := Same(c.a, c.b, c.exchange, c.keys); got != c.want {
			t.Errorf("%s: %v", c.what, got)
		}
		if got := Same(c.b, c.a, c.exchange, c.keys); got != c.want {
			t.Errorf("%s, turned around: %v", c.what, got)
		}
	}
}

// Queues that are as many, or the first of which are the same, are not all the same.
func TestSameLooksAtAllQueues(t *testing.T) {
	at := func(queues ...string) *bind.Table {
		p := three()
		for _, q := range queues {
			p = p.and(bi("f", q, ""))
		}
		return p.table(t)
	}
	all := [][]string{{}, {"a"}, {"b"}, {"a", "b"}, {"a", "c"}, {"b", "c"}, {"a", "b", "c"}, {"a", "b", "d"}}
	for i, a := range all {
		for j, b := range all {
			if got := Same(at(a...), at(b...), "f", []string{"k"}); got != (i == j) {
				t.Errorf("%v and %v: %v", a, b, got)
			}
		}
	}
	if !Same(at("a", "b", "c"), at("c", "a", "b"), "f", []string{"k"}) {
		t.Error("not the same in another order")
	}
}

// Queues alone count: not the patterns and kinds by which they come.
func TestSameByOtherBindings(t *testing.T) {
	a := three().and(bi("o", "q", "#")).table(t)
	b := three().and(bi("o", "q", "*"), bi("o", "q", "")).table(t)
	c := (&plain{exchanges: []api.Exchange{ex("o", api.Fanout, false)}, bindings: []api.Binding{bi("o", "q", "")}}).table(t)
	for _, c := range []struct {
		a, b *bind.Table
		keys []string
		want bool
	}{
		{a, b, []string{"", "a", "b"}, true}, {a, b, []string{"", "a", "a.b"}, false},
		{a, c, []string{"", "a", "a.b", "#"}, true}, {b, c, []string{"a", ""}, true}, {b, c, []string{"a", "", "a.a"}, false},
	} {
		if got := Same(c.a, c.b, "o", c.keys); got != c.want {
			t.Errorf("%q: %v", c.keys, got)
		}
	}
}

func TestSameOfManyTables(t *testing.T) {
	seed := uint64(80)
	count := [2]int{}
	for range 4000 {
		p := random(&seed)
		q := random(&seed)
		if next(&seed)%3 > 0 {
			q = p
			if b, is := randomBinding(&seed, p.exchanges); is {
				q = p.and(b)
			}
		}
		exchange := pick(&seed, exchangeTexts()[:5])
		var keys []string
		want := true
		for range next(&seed) % 4 {
			key := pick(&seed, keyTexts())
			keys = append(keys, key)
			want = want && slices.Equal(p.queues(exchange, key), q.queues(exchange, key))
		}
		if got := Same(p.table(t), q.table(t), exchange, keys); got != want {
			t.Fatalf("%v, %v: Same(%q, %q): %v", p, q, exchange, keys, got)
		}
		if want {
			count[1]++
		} else {
			count[0]++
		}
	}
	if count[0] < 200 || count[1] < 200 {
		t.Errorf("too few of one sort: %v", count)
	}
}

func TestUnmade(t *testing.T) {
	full := three().and(bi("o", "q", "#"), bi("d", "q", "a"), bi("f", "q", "")).table(t)
	for _, tb := range []*bind.Table{nil, {}} {
		for range 2 {
			wantPlain(t, tb, &plain{})
			for _, other := range []*bind.Table{nil, {}, bind.New(), three().table(t), tb} {
				if !Same(tb, other, "o", []string{"", "a", "#"}) || !Same(other, tb, "o", []string{"a"}) {
					t.Error("not the same as one without bindings")
				}
			}
			for _, exchange := range []string{"o", "d", "f"} {
				if Same(tb, full, exchange, []string{"a"}) || Same(full, tb, exchange, []string{"a"}) {
					t.Error("the same as one with bindings")
				}
				if !Same(tb, full, exchange, nil) || !Same(full, tb, exchange, []string{"A"}) {
					t.Error("not the same where nothing leads")
				}
			}
			if err := tb.Declare(ex("o", api.Topic, false)); err != api.ErrUnmade {
				t.Errorf("it is made now: %v", err)
			}
		}
	}
}

// P8.3

func TestABindingMore(t *testing.T) {
	seed := uint64(83)
	grew := 0
	for range 1500 {
		p := random(&seed)
		b, is := randomBinding(&seed, p.exchanges)
		if !is {
			continue
		}
		before, after := p.table(t), p.and(b).table(t)
		for _, exchange := range exchangeTexts() {
			for _, key := range keyTexts() {
				l, more := Queues(before, exchange, key), Queues(after, exchange, key)
				for _, queue := range l {
					if !slices.Contains(more, queue) {
						t.Fatalf("%v and %v: Queues(%q, %q): %q, without it %q", p, b, exchange, key, more, l)
					}
				}
				if exchange != b.Exchange && !slices.Equal(l, more) {
					t.Fatalf("%v and %v: Queues(%q, %q) of another exchange: %q, without it %q", p, b, exchange, key, more, l)
				}
				grew += len(more) - len(l)
			}
		}
	}
	if grew < 100 {
		t.Errorf("%d queues more: too few", grew)
	}
}

// R3

func TestAnswersAreNewMemory(t *testing.T) {
	p := three().and(bi("o", "q", "#"), bi("o", "q", "a"), bi("o", "b", "a"), bi("o", "a", "*"), bi("d", "q", "a"), bi("f", "q", ""))
	tb := p.table(t)
	queues, who := Queues(tb, "o", "a"), Who(tb, "q")
	otherQueues, otherWho := Queues(tb, "o", "a"), Who(tb, "q")
	scribble(queues)
	scribble(who)
	wantNames(t, "other queues", otherQueues, "a", "b", "q")
	wantNames(t, "other exchanges", otherWho, "d", "f", "o")
	wantPlain(t, tb, p)
	// What was told once stays so, whatever is done to the table.
	tb.Drop("o")
	tb.Forget("q")
	wantNames(t, "behind a change of the table", otherQueues, "a", "b", "q")
	wantNames(t, "behind a change of the table", otherWho, "d", "f", "o")
}

// scribble writes over a list and over the spare room behind it.
func scribble(l []string) {
	l = l[:cap(l)]
	for i := range l {
		l[i] = "scribbled"
	}
}

func TestSameLeavesKeysAlone(t *testing.T) {
	tb := three().and(bi("o", "q", "#")).table(t)
	room := []string{"z", "a", "a", "#", "", "behind", "it"}
	before := slices.Clone(room)
	for _, b := range []*bind.Table{tb, bind.New(), nil} {
		Same(tb, b, "o", room[:5])
		Same(tb, b, "o", room[3:5])
		wantNames(t, "keys", room, before...)
	}
}

func TestNoCallChangesATable(t *testing.T) {
	seed := uint64(33)
	for range 200 {
		p := random(&seed)
		a, b := p.table(t), p.table(t)
		wantPlain(t, a, p)
		Same(a, b, "o", keyTexts())
		if !slices.Equal(a.Exchanges(), b.Exchanges()) || !slices.Equal(a.Bindings(), b.Bindings()) {
			t.Fatalf("%v: it is %v %v now", p, a.Exchanges(), a.Bindings())
		}
	}
}
