package bind

import (
	"math"
	"regexp"
	"slices"
	"strconv"
	"strings"
	"testing"

	"staith/api"
)

// What names, keys and patterns are, told anew.
var (
	nameForm    = regexp.MustCompile(`\A[a-z0-9_-]{1,20}\z`)
	keyForm     = regexp.MustCompile(`\A([a-z0-9_-]+(\.[a-z0-9_-]+){0,11})?\z`)
	patternForm = regexp.MustCompile(`\A(([a-z0-9_-]+|[*#])(\.([a-z0-9_-]+|[*#])){0,11})?\z`)
)

func isKey(s string) bool { return len(s) <= 60 && keyForm.MatchString(s) }

func isPattern(s string) bool { return len(s) <= 60 && patternForm.MatchString(s) }

// plain is exchanges and bindings in lists, as they came: what a Table is held against.
type plain struct {
	exchanges []api.Exchange
	bindings  []api.Binding
}

func (p *plain) find(name string) (api.Exchange, bool) {
	for _, x := range p.exchanges {
		if x.Name == name {
			return x, true
		}
	}
	return api.Exchange{}, false
}

func (p *plain) declare(x api.Exchange) api.Errno {
	if !nameForm.MatchString(x.Name) || x.Kind < 1 || x.Kind > 3 {
		return api.ErrInput
	}
	if old, is := p.find(x.Name); is {
		if old.Kind == x.Kind && old.Federated == x.Federated {
			return api.OK
		}
		return api.ErrKind
	}
	if len(p.exchanges) == 8 {
		return api.ErrLimit
	}
	p.exchanges = append(p.exchanges, x)
	return api.OK
}

// keep are the bindings that stay; it tells how many do not.
func (p *plain) keep(stays func(b api.Binding) bool) int {
	var l []api.Binding
	for _, b := range p.bindings {
		if stays(b) {
			l = append(l, b)
		}
	}
	gone := len(p.bindings) - len(l)
	p.bindings = l
	return gone
}

func (p *plain) drop(name string) api.Errno {
	if _, is := p.find(name); !is {
		return api.ErrMissing
	}
	var l []api.Exchange
	for _, x := range p.exchanges {
		if x.Name != name {
			l = append(l, x)
		}
	}
	p.exchanges = l
	p.keep(func(b api.Binding) bool { return b.Exchange != name })
	return api.OK
}

func (p *plain) bind(b api.Binding) api.Errno {
	if !nameForm.MatchString(b.Queue) {
		return api.ErrInput
	}
	x, is := p.find(b.Exchange)
	if !is {
		return api.ErrMissing
	}
	if x.Kind == 1 && !isKey(b.Pattern) || x.Kind == 2 && b.Pattern != "" || x.Kind == 3 && !isPattern(b.Pattern) {
		return api.ErrInput
	}
	if slices.Contains(p.bindings, b) {
		return api.OK
	}
	if len(p.bindings) == 32 {
		return api.ErrLimit
	}
	p.bindings = append(p.bindings, b)
	return api.OK
}

func (p *plain) unbind(b api.Binding) api.Errno {
	if p.keep(func(other api.Binding) bool { return other != b }) == 0 {
		return api.ErrMissing
	}
	return api.OK
}

func (p *plain) forget(queue string) int {
	return p.keep(func(b api.Binding) bool { return b.Queue != queue })
}

// sorted are both lists by the order of the document, each one put where fewer are less.
func (p *plain) sorted() ([]api.Exchange, []api.Binding) {
	xs := make([]api.Exchange, len(p.exchanges))
	for _, x := range p.exchanges {
		at := 0
		for _, other := range p.exchanges {
			if other.Name < x.Name {
				at++
			}
		}
		xs[at] = x
	}
	bs := make([]api.Binding, len(p.bindings))
	for _, b := range p.bindings {
		at := 0
		for _, other := range p.bindings {
			if less(other, b) {
				at++
			}
		}
		bs[at] = b
	}
	return xs, bs
}

func less(a, b api.Binding) bool {
	if a.Exchange != b.Exchange {
		return a.Exchange < b.Exchange
	}
	if a.Queue != b.Queue {
		return a.Queue < b.Queue
	}
	return a.Pattern < b.Pattern
}

func (p *plain) copied() *plain {
	return &plain{exchanges: slices.Clone(p.exchanges), bindings: slices.Clone(p.bindings)}
}

// wantPlain holds all that a table tells against a plain one.
func wantPlain(t *testing.T, what any, tb *Table, p *plain) {
	t.Helper()
	xs, bs := p.sorted()
	if got := tb.Exchanges(); !slices.Equal(got, xs) {
		t.Fatalf("%v: Exchanges: %v, want %v", what, got, xs)
	}
	if got := tb.Bindings(); !slices.Equal(got, bs) {
		t.Fatalf("%v: Bindings: %v, want %v", what, got, bs)
	}
	for _, name := range []string{"", "x", "y", "z", "no", "A"} {
		a, aIs := tb.Find(name)
		b, bIs := p.find(name)
		if a != b || aIs != bIs {
			t.Fatalf("%v: Find(%q): %v %v, want %v %v", what, name, a, aIs, b, bIs)
		}
	}
}

// wantWhole is P7.3: each binding leads from an exchange that is there, and stands once.
func wantWhole(t *testing.T, what any, tb *Table) {
	t.Helper()
	l := tb.Bindings()
	for i, b := range l {
		if x, is := tb.Find(b.Exchange); !is || x.Name != b.Exchange {
			t.Fatalf("%v: %v leads from an exchange that is not there", what, b)
		}
		if slices.Contains(l[i+1:], b) {
			t.Fatalf("%v: %v stands twice", what, b)
		}
	}
}

// A call is one that changes a table; name is Drop's and Forget's.
type call struct {
	what     string
	exchange api.Exchange
	binding  api.Binding
	name     string
}

func declare(name string, kind int, federated bool) call {
	return call{what: "Declare", exchange: ex(name, kind, federated)}
}

func drop(name string) call { return call{what: "Drop", name: name} }

func bindTo(exchange, queue, pattern string) call {
	return call{what: "Bind", binding: bi(exchange, queue, pattern)}
}

func unbind(exchange, queue, pattern string) call {
	return call{what: "Unbind", binding: bi(exchange, queue, pattern)}
}

func forget(queue string) call { return call{what: "Forget", name: queue} }

func ex(name string, kind int, federated bool) api.Exchange {
	return api.Exchange{Name: name, Kind: kind, Federated: federated}
}

func bi(exchange, queue, pattern string) api.Binding {
	return api.Binding{Exchange: exchange, Queue: queue, Pattern: pattern}
}

// do makes a call to both tables and holds what they answer against each other.
func do(t *testing.T, row []call, c call, tb *Table, p *plain) {
	t.Helper()
	got, want := 0, 0
	switch c.what {
	case "Declare":
		got, want = int(tb.Declare(c.exchange)), int(p.declare(c.exchange))
	case "Drop":
		got, want = int(tb.Drop(c.name)), int(p.drop(c.name))
	case "Bind":
		got, want = int(tb.Bind(c.binding)), int(p.bind(c.binding))
	case "Unbind":
		got, want = int(tb.Unbind(c.binding)), int(p.unbind(c.binding))
	case "Forget":
		got, want = tb.Forget(c.name), p.forget(c.name)
	}
	if got != want {
		t.Fatalf("%v: %v: %d, want %d", row, c, got, want)
	}
}

// rows calls each with each row of count calls.
func rows(calls, row []call, count int, each func(row []call)) {
	if len(row) == count {
		each(row)
		return
	}
	for _, c := range calls {
		rows(calls, append(row, c), count, each)
	}
}

// after is a table, and the plain one, behind these calls, all of which do what they say.
func after(t *testing.T, calls ...call) (*Table, *plain) {
	t.Helper()
	tb, p := New(), &plain{}
	for _, c := range calls {
		do(t, calls, c, tb, p)
	}
	return tb, p
}

// three are the exchanges x, y and z, one of each kind.
func three() []call {
	return []call{declare("x", api.Topic, false), declare("y", api.Direct, true), declare("z", api.Fanout, false)}
}

// fullOfBindings is a topic exchange x, a direct one y, and this many bindings.
func fullOfBindings(count int) []call {
	l := three()
	for i := range count {
		l = append(l, bindTo([]string{"x", "y"}[i%2], "q"+strconv.Itoa(i%3), "k"+strconv.Itoa(i)))
	}
	return l
}

// fullOfExchanges are this many of them.
func fullOfExchanges(count int) []call {
	var l []call
	for i := range count {
		l = append(l, declare("e"+strconv.Itoa(i), 1+i%3, i%2 == 0))
	}
	return l
}

func wantErr(t *testing.T, what any, got, want api.Errno) {
	t.Helper()
	if got != want {
		t.Errorf("%v: %v, want %v", what, got, want)
	}
}

// next is a number in no plain order.
func next(seed *uint64) uint64 {
	*seed = *seed*6364136223846793005 + 1442695040888963407
	return *seed >> 33
}

// Names that may be, and that may not.
func goodNames() []string {
	return []string{"x", "0", "-", "_", "a-b_c9", "queue", strings.Repeat("n", 20), strings.Repeat("9", 19)}
}

func badNames() []string {
	return []string{"", "A", "x ", " x", "a.b", ".", "*", "#", "x\x00", "\xff", "é", "x\n", strings.Repeat("n", 21), strings.Repeat("n", 5000)}
}

// Patterns of all sorts.
func patterns() []string {
	return []string{
		"", "a", "a.b", "a.*", "a.#", "*", "#", "#.#", "*.a.#", ".", "a.", ".a", "a..b", "A", "a.B", "a*", "#a", "a b", "\xff", "é", "**", "a.*b",
		strings.Repeat("k", 60), strings.Repeat("k", 61), strings.Repeat("a.", 11) + "a", strings.Repeat("a.", 12) + "a",
		strings.Repeat("#.", 11) + "#", strings.Repeat("#.", 12) + "#", strings.Repeat("k", 58) + ".*", strings.Repeat("k", 59) + ".*",
		strings.Repeat("*", 5000), strings.Repeat("a.", 5000),
	}
}

// P7.1

func TestGood(t *testing.T) {
	kinds := []int{math.MinInt, -3, -1, 0, 1, 2, 3, 4, 5, 1 << 32, 1<<32 + 1, math.MaxInt}
	for _, kind := range kinds {
		for _, federated := range []bool{false, true} {
			for _, name := range goodNames() {
				if want := kind >= 1 && kind <= 3; Good(ex(name, kind, federated)) != want {
					t.Errorf("Good(%q, %d, %v): want %v", name, kind, federated, want)
				}
			}
			for _, name := range badNames() {
				if Good(ex(name, kind, federated)) {
					t.Errorf("Good(%q, %d, %v)", name, kind, federated)
				}
			}
		}
	}
}

func TestGoodOfEachByte(t *testing.T) {
	for c := range 256 {
		for _, name := range []string{string([]byte{byte(c)}), string([]byte{'a', byte(c), 'b'})} {
			if want := nameForm.MatchString(name); Good(ex(name, api.Direct, false)) != want {
				t.Errorf("Good of %q: want %v", name, want)
			}
		}
	}
}

func TestDeclareTakesWhatIsGood(t *testing.T) {
	for _, name := range append(goodNames(), badNames()...) {
		for kind := -1; kind <= 5; kind++ {
			for _, federated := range []bool{false, true} {
				x := ex(name, kind, federated)
				tb := New()
				err := tb.Declare(x)
				if !Good(x) {
					wantErr(t, x, err, api.ErrInput)
					wantPlain(t, x, tb, &plain{})
					continue
				}
				wantErr(t, x, err, api.OK)
				if got, is := tb.Find(name); got != x || !is {
					t.Errorf("Find(%q): %v %v, want %v", name, got, is, x)
				}
				wantPlain(t, x, tb, &plain{exchanges: []api.Exchange{x}})
			}
		}
	}
}

func TestDeclareOfWhatIsThere(t *testing.T) {
	for kind := 1; kind <= 3; kind++ {
		for _, federated := range []bool{false, true} {
			x := ex("x", kind, federated)
			tb, p := after(t, call{what: "Declare", exchange: x})
			for range 3 {
				wantErr(t, "as it is", tb.Declare(x), api.OK)
				wantPlain(t, x, tb, p)
			}
			for other := 1; other <= 3; other++ {
				for _, fed := range []bool{false, true} {
					if y := ex("x", other, fed); y != x {
						wantErr(t, "another one", tb.Declare(y), api.ErrKind)
						wantPlain(t, x, tb, p)
					}
				}
			}
		}
	}
}

func TestDeclareAgainKeepsBindings(t *testing.T) {
	tb, p := after(t, append(three(), bindTo("x", "q", "a.*"), bindTo("y", "q", "a"), bindTo("z", "q", ""))...)
	for _, c := range append(three(), declare("x", api.Topic, true), declare("y", api.Topic, true), declare("z", 0, false)) {
		do(t, nil, c, tb, p)
		wantPlain(t, c, tb, p)
	}
}

func TestDeclareUpToMaxExchanges(t *testing.T) {
	tb, p := after(t, fullOfExchanges(api.MaxExchanges-1)...)
	wantErr(t, "the last one", tb.Declare(ex("last", api.Topic, true)), api.OK)
	p.declare(ex("last", api.Topic, true))
	wantPlain(t, "full", tb, p)
	wantErr(t, "one more", tb.Declare(ex("x", api.Topic, true)), api.ErrLimit)
	wantErr(t, "one that is there", tb.Declare(ex("last", api.Topic, true)), api.OK)
	wantErr(t, "one that is there", tb.Declare(ex("e0", api.Direct, true)), api.OK)
	wantErr(t, "but of another kind", tb.Declare(ex("last", api.Direct, true)), api.ErrKind)
	wantErr(t, "but not federated", tb.Declare(ex("last", api.Topic, false)), api.ErrKind)
	wantErr(t, "not good", tb.Declare(ex("X", api.Topic, false)), api.ErrInput)
	wantErr(t, "not good", tb.Declare(ex("last", 4, true)), api.ErrInput)
	wantErr(t, "not good", tb.Declare(ex("x", 0, true)), api.ErrInput)
	wantPlain(t, "still full", tb, p)
	wantErr(t, "Drop", tb.Drop("e3"), api.OK)
	wantErr(t, "one more", tb.Declare(ex("x", api.Topic, true)), api.OK)
	wantErr(t, "and one more", tb.Declare(ex("e3", api.Direct, false)), api.ErrLimit)
	if len(tb.Exchanges()) != api.MaxExchanges {
		t.Errorf("%d exchanges", len(tb.Exchanges()))
	}
}

func TestDrop(t *testing.T) {
	begin := append(three(), bindTo("x", "q", "a.*"), bindTo("x", "r", "#"), bindTo("y", "q", "a"), bindTo("z", "q", ""), bindTo("z", "r", ""))
	for _, name := range []string{"x", "y", "z"} {
		tb, p := after(t, begin...)
		wantErr(t, "Drop "+name, tb.Drop(name), api.OK)
		if x, is := tb.Find(name); is || x != (api.Exchange{}) {
			t.Errorf("%s is there behind Drop", name)
		}
		var stay []api.Binding
		for _, b := range p.bindings {
			if b.Exchange != name {
				stay = append(stay, b)
			}
		}
		p.exchanges = slices.DeleteFunc(p.exchanges, func(x api.Exchange) bool { return x.Name == name })
		p.bindings = stay
		wantPlain(t, "Drop "+name, tb, p)
		wantErr(t, "Drop again", tb.Drop(name), api.ErrMissing)
		for kind := 1; kind <= 3; kind++ {
			wantErr(t, "another one of that name", tb.Declare(ex(name, kind, kind == 2)), api.OK)
			for _, b := range tb.Bindings() {
				if b.Exchange == name {
					t.Errorf("%v came back", b)
				}
			}
			wantErr(t, "Drop", tb.Drop(name), api.OK)
		}
		wantPlain(t, "behind all of it", tb, p)
	}
}

func TestDropOfWhatIsNotThere(t *testing.T) {
	tb, p := after(t, fullOfBindings(10)...)
	for _, name := range append(badNames(), "no", "xx", "q0", "k0", strings.Repeat("n", 20)) {
		wantErr(t, name, tb.Drop(name), api.ErrMissing)
		wantPlain(t, name, tb, p)
	}
	wantErr(t, "of an empty table", New().Drop("x"), api.ErrMissing)
}

// Example 1 of the chapter.
func TestDropTakesTheBindingsAlong(t *testing.T) {
	tb := New()
	wantErr(t, "Declare", tb.Declare(ex("x", api.Topic, false)), api.OK)
	wantErr(t, "Bind", tb.Bind(bi("x", "q", "a.*")), api.OK)
	wantErr(t, "Drop", tb.Drop("x"), api.OK)
	if len(tb.Bindings()) != 0 || len(tb.Exchanges()) != 0 {
		t.Errorf("%v %v", tb.Bindings(), tb.Exchanges())
	}
}

func TestFind(t *testing.T) {
	tb, _ := after(t, three()...)
	for _, want := range []api.Exchange{ex("x", api.Topic, false), ex("y", api.Direct, true), ex("z", api.Fanout, false)} {
		if x, is := tb.Find(want.Name); !is || x != want {
			t.Errorf("Find(%s): %v %v", want.Name, x, is)
		}
	}
	for _, name := range append(badNames(), "no", "xx", "q") {
		if x, is := tb.Find(name); is || x != (api.Exchange{}) {
			t.Errorf("Find(%q): %v %v", name, x, is)
		}
	}
}

// P7.2

func TestBindByKinds(t *testing.T) {
	for kind := 1; kind <= 3; kind++ {
		for _, federated := range []bool{false, true} {
			for _, pattern := range patterns() {
				tb, p := after(t, declare("x", kind, federated))
				b := bi("x", "q", pattern)
				want := api.ErrInput
				switch {
				case kind == api.Direct && isKey(pattern), kind == api.Fanout && pattern == "", kind == api.Topic && isPattern(pattern):
					want = api.OK
					p.bindings = append(p.bindings, b)
				}
				wantErr(t, b, tb.Bind(b), want)
				wantPlain(t, b, tb, p)
			}
		}
	}
}

func TestBindOfEachQueue(t *testing.T) {
	for _, queue := range append(goodNames(), badNames()...) {
		for i, c := range three() {
			b := bi(c.exchange.Name, queue, "")
			tb, p := after(t, three()...)
			want := api.OK
			if !nameForm.MatchString(queue) {
				want = api.ErrInput
			} else {
				p.bindings = append(p.bindings, b)
			}
			wantErr(t, i, tb.Bind(b), want)
			wantPlain(t, b, tb, p)
		}
	}
}

func TestBindToWhatIsNotThere(t *testing.T) {
	tb, p := after(t, fullOfBindings(5)...)
	for _, name := range append(badNames(), "no", "xx", "q0") {
		wantErr(t, name, tb.Bind(bi(name, "q", "")), api.ErrMissing)
		wantPlain(t, name, tb, p)
	}
	wantErr(t, "at an empty table", New().Bind(bi("x", "q", "a")), api.ErrMissing)
}

func TestTheFirstErrorOfBind(t *testing.T) {
	full, p := after(t, fullOfBindings(api.MaxBindings)...)
	for _, c := range []struct {
		b    api.Binding
		want api.Errno
	}{
		{bi("no", "", "a..b"), api.ErrInput},    // the queue, ahead of the exchange
		{bi("no", "q", "a..b"), api.ErrMissing}, // the exchange, ahead of the pattern
		{bi("x", "q", "a..b"), api.ErrInput},    // the pattern, ahead of the limit
		{bi("y", "q", "a.*"), api.ErrInput},
		{bi("z", "q", "a"), api.ErrInput},
		{bi("no", "q", "a"), api.ErrMissing},
		{bi("x", "", "a"), api.ErrInput},
		{bi("x", "q0", "k0"), api.OK}, // there, ahead of the limit
		{bi("y", "q1", "k1"), api.OK},
		{bi("x", "q", "a.*"), api.ErrLimit},
		{bi("y", "q", "a"), api.ErrLimit},
		{bi("z", "q", ""), api.ErrLimit},
	} {
		wantErr(t, c.b, full.Bind(c.b), c.want)
		wantPlain(t, c.b, full, p)
	}
}

func TestBindUpToMaxBindings(t *testing.T) {
	tb, p := after(t, fullOfBindings(api.MaxBindings-1)...)
	last, more := bi("z", "q", ""), bi("x", "q", "a.#")
	wantErr(t, "the last one", tb.Bind(last), api.OK)
	p.bind(last)
	wantPlain(t, "full", tb, p)
	for range 3 {
		wantErr(t, "one more", tb.Bind(more), api.ErrLimit)
		wantErr(t, "one that is there", tb.Bind(last), api.OK)
		wantPlain(t, "still full", tb, p)
	}
	wantErr(t, "Unbind", tb.Unbind(bi("x", "q0", "k0")), api.OK)
	wantErr(t, "behind Unbind", tb.Bind(more), api.OK)
	wantErr(t, "and one more", tb.Bind(bi("x", "q0", "k0")), api.ErrLimit)
	if len(tb.Bindings()) != api.MaxBindings {
		t.Errorf("%d bindings", len(tb.Bindings()))
	}
	gone := tb.Forget("q1")
	for i := range gone {
		wantErr(t, "behind Forget", tb.Bind(bi("x", "s", "a"+strconv.Itoa(i))), api.OK)
	}
	wantErr(t, "and one more", tb.Bind(bi("x", "s", "b")), api.ErrLimit)
	wantErr(t, "Drop", tb.Drop("y"), api.OK)
	wantErr(t, "behind Drop", tb.Bind(bi("x", "s", "b")), api.OK)
}

func TestBindTwiceIsOne(t *testing.T) {
	tb, p := after(t, append(three(), bindTo("x", "q", "a"))...)
	wantErr(t, "again", tb.Bind(bi("x", "q", "a")), api.OK)
	wantPlain(t, "twice", tb, p)
	wantErr(t, "Unbind", tb.Unbind(bi("x", "q", "a")), api.OK)
	if l := tb.Bindings(); len(l) != 0 {
		t.Errorf("behind Unbind: %v", l)
	}
}

func TestUnbind(t *testing.T) {
	tb, p := after(t, append(three(), bindTo("x", "q", "a"), bindTo("x", "q", "b"), bindTo("x", "r", "a"), bindTo("y", "q", "a"))...)
	for _, b := range []api.Binding{
		bi("y", "r", "a"), bi("x", "r", "b"), bi("y", "q", "b"), // each differs in one from some that are there
		bi("z", "q", "a"), bi("x", "s", "a"), bi("x", "q", "c"),
		bi("", "q", "a"), bi("x", "", "a"), bi("x", "q", ""), bi("no", "q", "a"), bi("x", "Q", "a"), bi("x", "q", "a..b"), {},
	} {
		wantErr(t, b, tb.Unbind(b), api.ErrMissing)
		wantPlain(t, b, tb, p)
	}
	for len(p.bindings) > 0 {
		b := p.bindings[0]
		p.bindings = p.bindings[1:]
		wantErr(t, b, tb.Unbind(b), api.OK)
		wantPlain(t, b, tb, p)
		wantErr(t, "twice", tb.Unbind(b), api.ErrMissing)
		wantPlain(t, b, tb, p)
	}
	wantErr(t, "of an empty table", New().Unbind(bi("x", "q", "a")), api.ErrMissing)
}

func TestForget(t *testing.T) {
	begin := append(three(),
		bindTo("x", "one", "a"),
		bindTo("x", "many", "a"), bindTo("x", "many", "b"), bindTo("x", "many", "#"),
		bindTo("x", "all", "a"), bindTo("y", "all", "a"), bindTo("y", "all", ""), bindTo("z", "all", ""),
		bindTo("y", "x", "y"))
	for queue, count := range map[string]int{"one": 1, "many": 3, "all": 4, "x": 1, "y": 0, "z": 0, "no": 0, "": 0, "a": 0, "al": 0, "\xff": 0} {
		tb, p := after(t, begin...)
		if got := tb.Forget(queue); got != count {
			t.Errorf("Forget(%q): %d, want %d", queue, got, count)
		}
		p.forget(queue)
		wantPlain(t, queue, tb, p)
		if got := tb.Forget(queue); got != 0 {
			t.Errorf("Forget(%q) again: %d", queue, got)
		}
		wantPlain(t, queue, tb, p)
	}
	full, _ := after(t, three()...)
	for i := range api.MaxBindings {
		full.Bind(bi("x", "q", "k"+strconv.Itoa(i)))
	}
	if got := full.Forget("q"); got != api.MaxBindings || len(full.Bindings()) != 0 || len(full.Exchanges()) != 3 {
		t.Errorf("Forget of all: %d", got)
	}
}

func TestExchangesByNames(t *testing.T) {
	names := []string{"-", "0", "10", "9", "_", "a", "a-", "ab"}
	seed := uint64(1)
	for range 300 {
		mixed := slices.Clone(names)
		for i := range mixed {
			j := i + int(next(&seed))%(len(mixed)-i)
			mixed[i], mixed[j] = mixed[j], mixed[i]
		}
		tb := New()
		for _, name := range mixed {
			// The kinds fall as the names rise, so an order by kinds is another one.
			tb.Declare(ex(name, 3-slices.Index(names, name)/3, name > "9"))
		}
		for i, x := range tb.Exchanges() {
			if x != ex(names[i], 3-i/3, names[i] > "9") {
				t.Fatalf("%v: Exchanges: %v", mixed, tb.Exchanges())
			}
		}
	}
}

func TestBindingsInOrder(t *testing.T) {
	var want []api.Binding
	for _, exchange := range []string{"a", "a-", "b"} {
		for _, queue := range []string{"-", "a", "b"} {
			for _, pattern := range []string{"", "#", "a.b"} {
				want = append(want, bi(exchange, queue, pattern))
			}
		}
	}
	seed := uint64(2)
	for range 300 {
		mixed := slices.Clone(want)
		for i := range mixed {
			j := i + int(next(&seed))%(len(mixed)-i)
			mixed[i], mixed[j] = mixed[j], mixed[i]
		}
		tb, _ := after(t, declare("b", api.Topic, false), declare("a-", api.Topic, false), declare("a", api.Topic, false))
		for _, b := range mixed {
			tb.Bind(b)
		}
		if got := tb.Bindings(); !slices.Equal(got, want) {
			t.Fatalf("%v: Bindings: %v", mixed, got)
		}
	}
}

func TestAllShortRows(t *testing.T) {
	calls := []call{
		declare("x", api.Topic, false), declare("x", api.Fanout, false), declare("x", api.Topic, true), declare("y", api.Direct, true), declare("Y", api.Direct, true), declare("y", 4, true),
		drop("x"), drop("y"), drop(""),
		bindTo("x", "q", "a.*"), bindTo("x", "q", ""), bindTo("x", "r", ""), bindTo("y", "q", ""), bindTo("y", "q", "a"), bindTo("y", "", "a"),
		unbind("x", "q", "a.*"), unbind("x", "q", ""), unbind("y", "q", ""),
		forget("q"), forget("r"),
	}
	for _, count := range []int{1, 2, 3, 4} {
		rows(calls, nil, count, func(row []call) {
			tb, p := New(), &plain{}
			for _, c := range row {
				do(t, row, c, tb, p)
			}
			wantPlain(t, row, tb, p)
			wantWhole(t, row, tb)
		})
	}
}

func TestShortRowsNearTheLimits(t *testing.T) {
	for _, begin := range [][]call{
		fullOfExchanges(api.MaxExchanges - 1), fullOfExchanges(api.MaxExchanges),
		fullOfBindings(api.MaxBindings - 1), fullOfBindings(api.MaxBindings),
		append(fullOfBindings(api.MaxBindings-1), fullOfExchanges(api.MaxExchanges-3)...),
	} {
		start, startPlain := after(t, begin...)
		calls := []call{
			declare("x", api.Topic, false), declare("e0", api.Direct, true), declare("e0", api.Topic, true), declare("new", api.Fanout, false),
			drop("x"), drop("y"), drop("e0"),
			bindTo("x", "q0", "k0"), bindTo("x", "q", "a.*"), bindTo("e0", "q", "a"), bindTo("y", "q1", "k1"), bindTo("new", "q", ""), bindTo("y", "q", "*"),
			unbind("x", "q0", "k0"), unbind("e0", "q", "a"),
			forget("q0"), forget("q"),
		}
		rows(calls, nil, 3, func(row []call) {
			tb, p := start.Copy(), startPlain.copied()
			for _, c := range row {
				do(t, row, c, tb, p)
			}
			wantPlain(t, row, tb, p)
			wantWhole(t, row, tb)
		})
		wantPlain(t, "what was copied", start, startPlain)
	}
}

func TestLongRows(t *testing.T) {
	names := []string{"x", "y", "z", "a", "b", "c", "d", "e", "f", "g", "", "X"}
	queues := []string{"q", "r", "s", "t", "", "Q"}
	texts := []string{"", "", "a", "a.b", "a.*", "#", "b", "c", "a..b"}
	seed := uint64(3)
	pick := func(l []string) string { return l[next(&seed)%uint64(len(l))] }
	for range 300 {
		tb, p := New(), &plain{}
		for step := range 150 {
			b := bi(pick(names), pick(queues), pick(texts))
			c := call{what: "Bind", binding: b}
			switch next(&seed) % 20 {
			case 0, 1, 2, 3, 4:
				c = declare(pick(names), int(next(&seed)%5), next(&seed)%2 == 0)
			case 5:
				c = drop(pick(names))
			case 6, 7:
				c = call{what: "Unbind", binding: b}
			case 8:
				if step%8 == 0 {
					c = forget(pick(queues))
				}
			}
			do(t, nil, c, tb, p)
			wantPlain(t, c, tb, p)
			wantWhole(t, c, tb)
		}
	}
}

func TestCopy(t *testing.T) {
	calls := []call{
		declare("new", api.Direct, true), drop("x"), drop("y"), bindTo("x", "q", "new"), bindTo("z", "new", ""),
		unbind("x", "q0", "k0"), forget("q0"), forget("q1"), drop("no"),
	}
	for _, begin := range [][]call{nil, three(), fullOfBindings(9), fullOfBindings(api.MaxBindings)} {
		for _, c := range calls {
			a, p := after(t, begin...)
			before := p.copied()
			b := a.Copy()
			wantPlain(t, "a copy", b, p)
			do(t, nil, c, a, p)
			wantPlain(t, "the first one, changed", a, p)
			wantPlain(t, "the copy, not changed", b, before)

			a, p = after(t, begin...)
			b, q := a.Copy(), p.copied()
			do(t, nil, c, b, q)
			wantPlain(t, "the copy, changed", b, q)
			wantPlain(t, "the first one, not changed", a, p)
		}
	}
}

func TestCopyOfAnEmptyOneIsMade(t *testing.T) {
	tb := New().Copy()
	wantPlain(t, "empty", tb, &plain{})
	wantErr(t, "Declare", tb.Declare(ex("x", api.Topic, false)), api.OK)
	wantErr(t, "Bind", tb.Bind(bi("x", "q", "")), api.OK)
	wantErr(t, "Drop", tb.Drop("x"), api.OK)
	wantPlain(t, "empty again", tb.Copy(), &plain{})
}

func TestNewOnesAreApart(t *testing.T) {
	a, b := New(), New()
	a.Declare(ex("x", api.Topic, false))
	a.Bind(bi("x", "q", ""))
	wantPlain(t, "another one", b, &plain{})
}

func TestUnmade(t *testing.T) {
	for _, tb := range []*Table{nil, {}} {
		for range 2 {
			for _, x := range []api.Exchange{ex("x", api.Topic, false), ex("", 0, false)} {
				wantErr(t, "Declare", tb.Declare(x), api.ErrUnmade)
			}
			for _, name := range []string{"x", "", "Q"} {
				wantErr(t, "Drop", tb.Drop(name), api.ErrUnmade)
				if n := tb.Forget(name); n != 0 {
					t.Errorf("Forget: %d", n)
				}
				if x, is := tb.Find(name); is || x != (api.Exchange{}) {
					t.Errorf("Find: %v %v", x, is)
				}
			}
			for _, b := range []api.Binding{bi("x", "q", "a"), bi("x", "", "a"), bi("x", "q", "a..b"), {}} {
				wantErr(t, "Bind", tb.Bind(b), api.ErrUnmade)
				wantErr(t, "Unbind", tb.Unbind(b), api.ErrUnmade)
			}
			if xs, bs := tb.Exchanges(), tb.Bindings(); len(xs) != 0 || len(bs) != 0 {
				t.Errorf("%v %v", xs, bs)
			}
			if tb.Copy() != nil {
				t.Error("Copy is a table")
			}
		}
	}
}

// R3

func TestAnswersAreNewMemory(t *testing.T) {
	for _, count := range []int{1, 2, 5, 31, 32} {
		tb, p := after(t, fullOfBindings(count)...)
		xs, bs := tb.Exchanges(), tb.Bindings()
		otherXs, otherBs := tb.Exchanges(), tb.Bindings()
		scribble(xs, ex("no", 9, true))
		scribble(bs, bi("no", "no", "no"))
		wantPlain(t, "behind a change of what it told", tb, p)
		wantX, wantB := p.sorted()
		if !slices.Equal(otherXs, wantX) || !slices.Equal(otherBs, wantB) {
			t.Error("two answers share memory")
		}
		other := tb.Copy()
		scribble(other.Exchanges(), ex("no", 9, true))
		scribble(other.Bindings(), bi("no", "no", "no"))
		wantPlain(t, "a copy, behind it", other, p)
		// What was told once stays so, whatever is done to the table.
		tb.Drop("x")
		tb.Forget("q1")
		tb.Declare(ex("a", api.Fanout, true))
		if !slices.Equal(otherXs, wantX) || !slices.Equal(otherBs, wantB) {
			t.Error("an answer changes with the table")
		}
	}
}

// scribble writes over a list and over the spare room behind it.
func scribble[T any](l []T, with T) {
	l = l[:cap(l)]
	for i := range l {
		l[i] = with
	}
}
