package state

import (
	"fmt"
	"math"
	"math/rand"
	"slices"
	"strconv"
	"strings"
	"testing"

	"staith/api"
)

func queue(name string, n int) api.Act { return api.Act{Kind: api.ActQueue, Name: name, N: n} }

func noQueue(name string) api.Act { return api.Act{Kind: api.ActNoQueue, Name: name} }

// exchange is a federated one's act.
func exchange(name string, kind int) api.Act {
	return api.Act{Kind: api.ActExchange, Exchange: api.Exchange{Name: name, Kind: kind, Federated: true}}
}

// local is the act of one that is not.
func local(name string, kind int) api.Act {
	return api.Act{Kind: api.ActExchange, Exchange: api.Exchange{Name: name, Kind: kind}}
}

func noExchange(name string) api.Act { return api.Act{Kind: api.ActNoEx, Name: name} }

func binding(x, q, pattern string) api.Act {
	return api.Act{Kind: api.ActBind, Binding: api.Binding{Exchange: x, Queue: q, Pattern: pattern}}
}

func unbinding(x, q, pattern string) api.Act {
	return api.Act{Kind: api.ActUnbind, Binding: api.Binding{Exchange: x, Queue: q, Pattern: pattern}}
}

func message(origin int, seq uint64, hop int, x, key string) api.Message {
	return api.Message{Ident: api.Ident{Origin: origin, Seq: seq}, Hop: hop, Exchange: x, Key: key, Body: fmt.Sprint(origin, ":", seq)}
}

func enter(m api.Message) api.Act { return api.Act{Kind: api.ActEnter, Message: m} }

// comes is a message's act, of exchange x and with an empty key.
func comes(origin int, seq uint64, hop int) api.Act { return enter(message(origin, seq, hop, "x", "")) }

func give(name string) api.Act { return api.Act{Kind: api.ActGive, Name: name} }

func ack(name string, tag uint64) api.Act { return api.Act{Kind: api.ActAck, Name: name, Tag: tag} }

func back(name string, tag uint64) api.Act { return api.Act{Kind: api.ActBack, Name: name, Tag: tag} }

func sent(to, n int) api.Act { return api.Act{Kind: api.ActSent, To: to, N: n} }

func boot() api.Act { return api.Act{Kind: api.ActBoot} }

// world is a topology; pairs are From and To.
func world(sites, hops int, pairs ...int) api.Topology {
	t := api.Topology{Sites: sites, Hops: hops}
	for i := 0; i < len(pairs); i += 2 {
		t.Edges = append(t.Edges, api.Edge{From: pairs[i], To: pairs[i+1]})
	}
	return t
}

// pair is two sites with edges both ways, triangle three with all of them.
func pair() api.Topology { return world(2, 2, 1, 2, 2, 1) }

func triangle() api.Topology { return world(3, 2, 1, 2, 1, 3, 2, 1, 2, 3, 3, 1, 3, 2) }

// made is a state behind acts of which none has an error, and the plain one.
func made(t *testing.T, site int, w api.Topology, acts ...api.Act) (*State, *plain) {
	t.Helper()
	s, p := New(site, w), newPlain(site, w)
	if s == nil {
		t.Fatalf("New(%d, %v): nil", site, w)
	}
	all(t, s, p, acts...)
	return s, p
}

// all applies acts of which none has an error.
func all(t *testing.T, s *State, p *plain, acts ...api.Act) {
	t.Helper()
	for _, a := range acts {
		if err := do(t, "made", s, p, a); err != api.OK {
			t.Fatalf("Apply(%+v): %v", a, err)
		}
	}
	wantPlain(t, "made", s, p)
}

// read is the state of parts that are right, and the plain one.
func read(t *testing.T, site int, w api.Topology, parts Parts) (*State, *plain) {
	t.Helper()
	s, err := From(site, w, parts)
	if s == nil || err != api.OK {
		t.Fatalf("From(%d, %v, %+v): %v", site, w, parts, err)
	}
	p := plainOf(site, w, parts)
	wantPlain(t, "read", s, p)
	return s, p
}

// wantRefused applies an act that must have this error, and change nothing.
func wantRefused(t *testing.T, what string, s *State, a api.Act, want api.Errno) {
	t.Helper()
	was := s.Parts()
	if told, err := s.Apply(a); err != want || len(told) != 0 {
		t.Errorf("%s: Apply(%+v): %v %v, want %v", what, a, told, err, want)
	}
	wantParts(t, what+": refused", s, was)
}

// wantDone applies an act that must be done, and tell these queues.
func wantDone(t *testing.T, what string, s *State, a api.Act, names ...string) {
	t.Helper()
	if told, err := s.Apply(a); err != api.OK || !slices.Equal(told, names) {
		t.Errorf("%s: Apply(%+v): %v %v, want %v", what, a, told, err, names)
	}
}

// wantWaits holds the ids that wait for a site against others.
func wantWaits(t *testing.T, what string, s *State, to, hop int, seqs ...uint64) {
	t.Helper()
	var got []uint64
	for _, m := range s.Link(to) {
		if m.Hop != hop {
			t.Errorf("%s: %+v waits for %d, want Hop %d", what, m, to, hop)
		}
		got = append(got, m.Ident.Seq)
	}
	if !slices.Equal(got, seqs) {
		t.Errorf("%s: %v wait for %d, want %v", what, got, to, seqs)
	}
}

// tags are those of a queue that are ready, and that are out; a mark is told by a minus.
func tags(s *State, name string) string {
	q, is := s.Queue(name)
	if !is {
		return "none"
	}
	list := func(l []api.Item) string {
		var texts []string
		for _, item := range l {
			text := strconv.FormatUint(item.Tag, 10)
			if item.Again {
				text = "-" + text
			}
			texts = append(texts, text)
		}
		return strings.Join(texts, " ")
	}
	return list(q.Ready) + "|" + list(q.Out)
}

func wantTags(t *testing.T, what string, s *State, name, want string) {
	t.Helper()
	if got := tags(s, name); got != want {
		t.Errorf("%s: %s has %s, want %s", what, name, got, want)
	}
}

func TestExample(t *testing.T) {
	s := New(1, world(2, 2, 1, 2))
	wantDone(t, "exchange", s, exchange("x", api.Fanout))
	wantDone(t, "enter", s, comes(1, 1, 0))
	wantWaits(t, "example", s, 2, 1, 1)
	want := Parts{
		Seq:       1,
		Exchanges: []api.Exchange{{Name: "x", Kind: api.Fanout, Federated: true}},
		Seen:      []SeenPart{{Origin: 1, Ranges: []api.Range{{Lo: 1, Hi: 1}}}},
		Links:     []LinkPart{{To: 2, Messages: []api.Message{message(1, 1, 1, "x", "")}}},
	}
	wantParts(t, "example", s, want)
}

// P14.1, New

func TestNew(t *testing.T) {
	for _, w := range []api.Topology{world(1, 0), world(1, 8), world(2, 0, 1, 2), pair(), triangle(), world(8, 8, 1, 2, 8, 1, 7, 8), world(8, 0)} {
		for _, site := range everySite() {
			s := New(site, w)
			if (s != nil) != (site >= 1 && site <= w.Sites) {
				t.Fatalf("New(%d, %v): %v", site, w, s)
			}
			if s != nil {
				wantParts(t, "new", s, Parts{})
				wantPlain(t, "new", s, newPlain(site, w))
			}
		}
	}
}

// wrongWorlds are topologies that may not be.
func wrongWorlds() []api.Topology {
	return []api.Topology{
		{}, world(0, 1), world(-1, 1), world(9, 1), world(math.MaxInt, 1), world(math.MinInt, 1),
		world(2, -1), world(2, 9), world(2, math.MinInt), world(2, math.MaxInt),
		world(2, 1, 1, 1), world(2, 1, 1, 3), world(2, 1, 3, 1), world(2, 1, 0, 1), world(2, 1, 1, 0), world(2, 1, -1, 2),
		world(2, 1, 1, 2, 1, 2), world(3, 1, 1, 2, 2, 3, 1, 2),
	}
}

func TestNewOfWhatMayNotBe(t *testing.T) {
	for _, w := range wrongWorlds() {
		for _, site := range everySite() {
			if s := New(site, w); s != nil {
				t.Errorf("New(%d, %v) is a state", site, w)
			}
			if s, err := From(site, w, Parts{}); s != nil || err != api.ErrDamage {
				t.Errorf("From(%d, %v): %v %v", site, w, s, err)
			}
		}
	}
}

func TestEdgesAreNotKept(t *testing.T) {
	w := world(3, 2, 1, 2, 1, 3)
	one := New(1, w)
	two, _ := From(1, w, Parts{})
	three := one.Copy()
	for i := range w.Edges {
		w.Edges[i] = api.Edge{From: 2, To: 1}
	}
	for _, s := range []*State{one, two, three} {
		wantDone(t, "exchange", s, exchange("x", api.Fanout))
		wantDone(t, "enter", s, comes(1, 1, 0))
		wantWaits(t, "edges", s, 2, 1, 1)
		wantWaits(t, "edges", s, 3, 1, 1)
		wantDone(t, "sent", s, sent(3, 1))
	}
}

// P14.1, acts that are none

// busy is a state with some of everything, site 1 of three.
func busy(t *testing.T) (*State, *plain) {
	t.Helper()
	return made(t, 1, triangle(),
		queue("q", 3), queue("r", 2), queue("p", 9), queue("empty", 1),
		exchange("x", api.Fanout), local("d", api.Direct), exchange("t", api.Topic),
		binding("x", "q", ""), binding("x", "p", ""), binding("d", "r", "k"), binding("t", "p", "a.*"), binding("t", "q", "#"),
		comes(1, 1, 0), comes(2, 1, 1), enter(message(1, 2, 0, "d", "k")), enter(message(3, 7, 1, "t", "a.b")),
		give("q"), give("q"), back("q", 1), give("p"), give("p"), ack("p", 2), boot(), give("q"), give("r"),
	)
}

func TestActsThatAreNone(t *testing.T) {
	long := strings.Repeat("n", 21)
	bad := []api.Act{
		{}, {Kind: -1}, {Kind: 13}, {Kind: math.MinInt}, {Kind: math.MaxInt}, {Name: "q"}, {Kind: 13, Name: "q"},
		queue("", 1), queue(long, 1), queue("Q", 1), queue("q", 0), queue("q", -1), queue("q", 1001), queue("new", math.MaxInt), queue("a.b", 1),
		noQueue(""), noQueue("Q"), noExchange(""), noExchange(long), give(""), give("é"),
		exchange("", 1), exchange("x", 0), exchange("x", 4), exchange("X", 2), exchange("x", -1),
		binding("", "q", ""), binding("x", "", ""), binding("x", "q", strings.Repeat("a", 61)), binding("x", "Q", ""),
		unbinding("", "q", ""), unbinding("x", "", ""), unbinding("x", "q", strings.Repeat("a", 61)),
		comes(0, 1, 0), comes(9, 1, 0), comes(-1, 1, 0), comes(1, 0, 0), comes(1, 3, -1), comes(1, 3, 9), comes(2, 2, math.MaxInt),
		enter(message(1, 3, 0, "", "")), enter(message(1, 3, 0, "X", "")), enter(message(1, 3, 0, "x", ".")), enter(message(1, 3, 0, "x", "#")),
		enter(api.Message{Ident: api.Ident{Origin: 1, Seq: 3}, Exchange: "x", Body: strings.Repeat("b", 201)}),
		ack("q", 0), ack("", 1), back("q", 0), back("", 1),
		sent(0, 1), sent(9, 1), sent(-1, 1), sent(2, 0), sent(2, -1), sent(2, 201), sent(math.MaxInt, math.MaxInt),
	}
	for _, good := range oneOfEach() {
		for _, meddle := range []func(a *api.Act){
			func(a *api.Act) { a.Name += "!" },
			func(a *api.Act) { a.N = -1 },
			func(a *api.Act) { a.Binding.Pattern += strings.Repeat("a", 61) },
			func(a *api.Act) { a.Exchange.Kind = 4 },
			func(a *api.Act) { a.Message.Body = strings.Repeat("b", 201) },
			func(a *api.Act) { a.To = -1 },
		} {
			a := good
			meddle(&a)
			bad = append(bad, a)
		}
		if good.Kind != api.ActAck && good.Kind != api.ActBack {
			good.Tag = 1
			bad = append(bad, good)
		}
	}
	s, p := busy(t)
	fresh := New(1, triangle())
	for _, a := range bad {
		if isAct(a) {
			t.Fatalf("%+v is one", a)
		}
		wantRefused(t, "busy", s, a, api.ErrInput)
		wantRefused(t, "new", fresh, a, api.ErrInput)
	}
	wantPlain(t, "busy", s, p)
}

// oneOfEach has an act of each kind.
func oneOfEach() []api.Act {
	return []api.Act{
		queue("q", 3), noQueue("q"), exchange("x", api.Fanout), noExchange("x"), binding("x", "q", ""), unbinding("x", "q", ""),
		comes(2, 9, 1), give("q"), ack("q", 1), back("q", 1), sent(2, 1), boot(),
	}
}

func TestQueuesAreToldOfEnterAlone(t *testing.T) {
	s, _ := busy(t)
	for _, a := range oneOfEach() {
		told, err := s.Copy().Apply(a)
		if a.Kind != api.ActEnter && len(told) != 0 {
			t.Errorf("Apply(%+v): %v %v", a, told, err)
		}
	}
}

// P14.1, queues

func TestQueue(t *testing.T) {
	for _, n := range []int{1, 2, 500, 1000} {
		s := New(1, pair())
		wantDone(t, "queue", s, queue("q", n))
		if q, is := s.Queue("q"); !is || !sameQueue(q, QueuePart{Name: "q", Most: n, Next: 1}) {
			t.Errorf("a new queue for %d: %+v %v", n, q, is)
		}
		wantDone(t, "the same", s, queue("q", n))
		wantRefused(t, "another number", s, queue("q", 3), api.ErrKind)
		wantParts(t, "one queue", s, Parts{Queues: []QueuePart{{Name: "q", Most: n, Next: 1}}})
	}
}

func TestQueueThatIsThereKeepsItsMessages(t *testing.T) {
	s, _ := busy(t)
	was := s.Parts()
	wantDone(t, "the same", s, queue("q", 3))
	wantParts(t, "the same", s, was)
	wantRefused(t, "less", s, queue("q", 2), api.ErrKind)
	wantRefused(t, "more", s, queue("q", 4), api.ErrKind)
}

func TestQueueLimit(t *testing.T) {
	s := New(1, pair())
	for i := range 16 {
		wantDone(t, "up to the limit", s, queue(fmt.Sprint("q", i), 5))
	}
	wantRefused(t, "one more", s, queue("more", 5), api.ErrLimit)
	wantRefused(t, "there, another number", s, queue("q3", 6), api.ErrKind)
	wantDone(t, "there", s, queue("q3", 5))
	wantDone(t, "gone", s, noQueue("q7"))
	wantDone(t, "one instead", s, queue("more", 5))
	wantRefused(t, "one more again", s, queue("q7", 5), api.ErrLimit)
	if n := len(s.Parts().Queues); n != 16 {
		t.Errorf("%d queues", n)
	}
}

func TestNoQueue(t *testing.T) {
	s, _ := busy(t)
	wantRefused(t, "missing", s, noQueue("none"), api.ErrMissing)
	wantRefused(t, "an exchange's name", s, noQueue("x"), api.ErrMissing)
	wantDone(t, "there", s, noQueue("q"))
	wantTags(t, "gone", s, "q", "none")
	wantRefused(t, "gone", s, noQueue("q"), api.ErrMissing)
	for _, b := range s.Parts().Bindings {
		if b.Queue == "q" {
			t.Errorf("%v is left", b)
		}
	}
	if n := len(s.Parts().Bindings); n != 3 {
		t.Errorf("%d bindings are left, want 3", n)
	}
	wantDone(t, "anew", s, queue("q", 8))
	if q, _ := s.Queue("q"); !sameQueue(q, QueuePart{Name: "q", Most: 8, Next: 1}) {
		t.Errorf("made anew: %+v", q)
	}
	wantDone(t, "not bound any more", s, comes(1, 3, 0), "p")
	if !s.Has(api.Ident{Origin: 2, Seq: 1}) {
		t.Error("what was in a queue that is gone is seen no more")
	}
	wantRefused(t, "what was in it comes again", s, comes(2, 1, 1), api.ErrTaken)
}

// P14.1, exchanges and bindings

func TestExchange(t *testing.T) {
	s := New(1, pair())
	for i := range 8 {
		wantDone(t, "up to the limit", s, exchange(fmt.Sprint("x", i), 1+i%3))
	}
	wantRefused(t, "one more", s, exchange("more", api.Direct), api.ErrLimit)
	wantDone(t, "there", s, exchange("x2", api.Topic))
	wantRefused(t, "of another kind", s, exchange("x2", api.Direct), api.ErrKind)
	wantRefused(t, "not federated", s, local("x2", api.Topic), api.ErrKind)
	wantDone(t, "gone", s, noExchange("x2"))
	wantRefused(t, "gone", s, noExchange("x2"), api.ErrMissing)
	wantDone(t, "another kind now", s, local("x2", api.Direct))
	if x := s.Parts().Exchanges; len(x) != 8 || x[2] != (api.Exchange{Name: "x2", Kind: api.Direct}) {
		t.Errorf("exchanges: %v", x)
	}
}

func TestNoExchange(t *testing.T) {
	s, _ := busy(t)
	wantRefused(t, "missing", s, noExchange("none"), api.ErrMissing)
	wantRefused(t, "a queue's name", s, noExchange("q"), api.ErrMissing)
	wantDone(t, "there", s, noExchange("t"))
	want := []api.Binding{{Exchange: "d", Queue: "r", Pattern: "k"}, {Exchange: "x", Queue: "p"}, {Exchange: "x", Queue: "q"}}
	if got := s.Parts().Bindings; !slices.Equal(got, want) {
		t.Errorf("bindings: %v, want %v", got, want)
	}
}

func TestBind(t *testing.T) {
	s, _ := made(t, 1, pair(), queue("q", 1), exchange("d", api.Direct), exchange("f", api.Fanout), exchange("t", api.Topic))
	// The queue is asked for ahead of all others.
	wantRefused(t, "no queue", s, binding("f", "none", ""), api.ErrMissing)
	wantRefused(t, "no queue, a wrong pattern", s, binding("f", "none", "a"), api.ErrMissing)
	wantRefused(t, "no queue, no exchange", s, binding("none", "none", "a"), api.ErrMissing)
	wantRefused(t, "no exchange", s, binding("none", "q", ""), api.ErrMissing)
	wantRefused(t, "no exchange, a pattern that is none", s, binding("none", "q", "A"), api.ErrMissing)
	wantRefused(t, "a key at a fanout", s, binding("f", "q", "a"), api.ErrInput)
	wantRefused(t, "a pattern at a direct one", s, binding("d", "q", "a.*"), api.ErrInput)
	wantRefused(t, "no pattern", s, binding("t", "q", "a."), api.ErrInput)
	wantDone(t, "fanout", s, binding("f", "q", ""))
	wantDone(t, "fanout again", s, binding("f", "q", ""))
	wantDone(t, "direct", s, binding("d", "q", "a.b"))
	wantDone(t, "direct, empty", s, binding("d", "q", ""))
	wantDone(t, "topic", s, binding("t", "q", "a.*.#"))
	want := []api.Binding{{Exchange: "d", Queue: "q"}, {Exchange: "d", Queue: "q", Pattern: "a.b"}, {Exchange: "f", Queue: "q"}, {Exchange: "t", Queue: "q", Pattern: "a.*.#"}}
	if got := s.Parts().Bindings; !slices.Equal(got, want) {
		t.Errorf("bindings: %v, want %v", got, want)
	}
	wantRefused(t, "not there", s, unbinding("d", "q", "a"), api.ErrMissing)
	wantRefused(t, "nothing of it there", s, unbinding("none", "none", ""), api.ErrMissing)
	wantDone(t, "there", s, unbinding("d", "q", "a.b"))
	wantRefused(t, "gone", s, unbinding("d", "q", "a.b"), api.ErrMissing)
	wantDone(t, "the other one", s, unbinding("d", "q", ""))
	if got := s.Parts().Bindings; !slices.Equal(got, want[2:]) {
		t.Errorf("bindings: %v, want %v", got, want[2:])
	}
}

func TestBindLimit(t *testing.T) {
	s, _ := made(t, 1, pair(), queue("q", 1), queue("r", 1), exchange("d", api.Direct), exchange("f", api.Fanout))
	for i := range 32 {
		wantDone(t, "up to the limit", s, binding("d", "q", fmt.Sprint(i)))
	}
	wantRefused(t, "one more", s, binding("f", "r", ""), api.ErrLimit)
	wantRefused(t, "one more that may not be", s, binding("f", "r", "a"), api.ErrInput)
	wantRefused(t, "one more of no queue", s, binding("f", "none", ""), api.ErrMissing)
	wantDone(t, "there", s, binding("d", "q", "31"))
	wantDone(t, "gone", s, unbinding("d", "q", "31"))
	wantDone(t, "one instead", s, binding("f", "r", ""))
	wantRefused(t, "one more again", s, binding("d", "q", "31"), api.ErrLimit)
}

// P14.1, ActEnter of a message that is published here

// sieged is site 1 of a pair with what may be wrong when a message enters: a fanout x with the queues q and r.
type sieged struct {
	room  bool // r holds one, which is out
	tag   bool // r is at its last tag
	link  bool // 200 wait for 2
	seq   uint64
	taken bool // (3, 1) was seen
}

func (c sieged) parts() Parts {
	p := Parts{
		Seq:       c.seq,
		Exchanges: []api.Exchange{{Name: "x", Kind: api.Fanout, Federated: true}},
		Bindings:  []api.Binding{{Exchange: "x", Queue: "q"}, {Exchange: "x", Queue: "r"}},
		Queues:    []QueuePart{{Name: "q", Most: 5, Next: 1}, {Name: "r", Most: 1, Next: 2}},
	}
	if c.room {
		p.Queues[1].Out = []api.Item{{Tag: 1, Message: message(1, 1, 0, "x", "")}}
	}
	if c.tag {
		p.Queues[1].Next = top
	}
	if c.link {
		p.Links = []LinkPart{{To: 2, Messages: many(200)}}
	}
	if c.taken {
		p.Seen = []SeenPart{{Origin: 3, Ranges: []api.Range{{Lo: 1, Hi: 1}}}}
	}
	return p
}

// many are messages that may wait for a link.
func many(n int) []api.Message {
	l := make([]api.Message, n)
	for i := range l {
		l[i] = message(1, uint64(i+1), 1, "x", "")
	}
	return l
}

// each calls do with all choices of n things.
func each(n int, do func(is []bool)) {
	for set := range 1 << n {
		is := make([]bool, n)
		for i := range is {
			is[i] = set>>i&1 == 1
		}
		do(is)
	}
}

// first is the error of the first thing that is so; OK, if none is.
func first(is []bool, errs ...api.Errno) api.Errno {
	for i, err := range errs {
		if is[i] {
			return err
		}
	}
	return api.OK
}

func TestEnterOwnTellsTheFirstError(t *testing.T) {
	each(7, func(is []bool) {
		over, stale, hop, missing := is[0], is[1], is[2], is[3]
		c := sieged{seq: 5, room: is[4], tag: is[5], link: is[6]}
		m := message(1, 6, 0, "x", "")
		if over {
			c.seq = top
			m.Ident.Seq = top
		}
		if stale {
			m.Ident.Seq = 7
		}
		if hop {
			m.Hop = 1
		}
		if missing {
			m.Exchange = "none"
		}
		want := first(is, api.ErrOver, api.ErrStale, api.ErrInput, api.ErrMissing, api.ErrSpace, api.ErrSpace, api.ErrSpace)
		s, p := read(t, 1, world(3, 2, 1, 2, 3, 1), c.parts())
		if want != api.OK {
			wantRefused(t, fmt.Sprint(is), s, enter(m), want)
		}
		if err := do(t, fmt.Sprint(is), s, p, enter(m)); err != want {
			t.Errorf("%v: %v, want %v", is, err, want)
		}
		wantPlain(t, fmt.Sprint(is), s, p)
	})
}

func TestEnterOwnGoesByNumbers(t *testing.T) {
	s := New(1, pair())
	wantDone(t, "exchange", s, exchange("x", api.Fanout))
	for _, seq := range []uint64{2, 3, 100, top - 1, top} {
		wantRefused(t, "ahead of the first", s, comes(1, seq, 0), api.ErrStale)
	}
	wantDone(t, "the first", s, comes(1, 1, 0))
	for _, seq := range []uint64{1, 3, 4, top} {
		wantRefused(t, "behind the first", s, comes(1, seq, 0), api.ErrStale)
	}
	wantDone(t, "the second", s, comes(1, 2, 0))
	if p := s.Parts(); p.Seq != 2 || len(p.Seen) != 1 || !slices.Equal(p.Seen[0].Ranges, []api.Range{{Lo: 1, Hi: 2}}) {
		t.Errorf("behind two: %+v", p)
	}
	wantDone(t, "another's", s, comes(2, 9, 1))
	if p := s.Parts(); p.Seq != 2 {
		t.Errorf("behind another's: Seq %d", p.Seq)
	}
	wantWaits(t, "two", s, 2, 1, 1, 2)
}

func TestEnterOwnAtTheLastNumber(t *testing.T) {
	s, _ := read(t, 1, pair(), sieged{seq: top - 1}.parts())
	wantRefused(t, "stale", s, comes(1, top-1, 0), api.ErrStale)
	wantDone(t, "the last one", s, comes(1, top, 0), "q", "r")
	for _, seq := range []uint64{1, 2, top - 1, top} {
		wantRefused(t, "over", s, comes(1, seq, 0), api.ErrOver)
		wantRefused(t, "over, and a hop", s, comes(1, seq, 3), api.ErrOver)
	}
	if p := s.Parts(); p.Seq != top {
		t.Errorf("Seq %d", p.Seq)
	}
}

func TestEnterOwnIsNotAskedWhetherItWasSeen(t *testing.T) {
	// No acts lead here, but parts may say so: the number alone counts.
	parts := sieged{seq: 5}.parts()
	parts.Seen = []SeenPart{{Origin: 1, Ranges: []api.Range{{Lo: 3, Hi: 9}}}}
	s, _ := read(t, 1, pair(), parts)
	wantRefused(t, "not the next one", s, comes(1, 1, 0), api.ErrStale)
	wantDone(t, "the next one", s, comes(1, 6, 0), "q", "r")
	if p := s.Parts(); !slices.Equal(p.Seen[0].Ranges, parts.Seen[0].Ranges) {
		t.Errorf("seen: %v", p.Seen)
	}
}

func TestEnterOwnOfAnExchangeThatIsNotFederated(t *testing.T) {
	s, _ := made(t, 1, pair(), local("x", api.Fanout), queue("q", 5), binding("x", "q", ""))
	wantDone(t, "local", s, comes(1, 1, 0), "q")
	wantWaits(t, "local", s, 2, 1)
	if !s.Has(api.Ident{Origin: 1, Seq: 1}) {
		t.Error("not seen")
	}
	// What comes from others goes on, whatever the exchange is here.
	s, _ = made(t, 2, world(3, 2, 1, 2, 2, 3), local("x", api.Fanout), queue("q", 5), binding("x", "q", ""))
	wantDone(t, "another's", s, comes(1, 1, 1), "q")
	wantWaits(t, "another's", s, 3, 2, 1)
	wantDone(t, "own", s, comes(2, 1, 0), "q")
	wantWaits(t, "own", s, 3, 2, 1)
}

// P14.1, ActEnter of a message of another site

func TestEnterOthersTellsTheFirstError(t *testing.T) {
	each(6, func(is []bool) {
		taken, hop, far := is[0], is[1], is[2]
		c := sieged{taken: taken, room: is[3], tag: is[4], link: is[5]}
		// From 3 over 4 to 1 there are two edges.
		w := world(4, 3, 3, 4, 4, 1, 1, 2)
		m := message(3, 1, 2, "x", "")
		if hop {
			m.Hop = 1
		}
		if far {
			w.Hops = 1
		}
		want := first(is, api.ErrTaken, api.ErrInput, api.ErrInput, api.ErrSpace, api.ErrSpace, api.ErrSpace)
		s, p := read(t, 1, w, c.parts())
		if want != api.OK {
			wantRefused(t, fmt.Sprint(is), s, enter(m), want)
		}
		if err := do(t, fmt.Sprint(is), s, p, enter(m)); err != want {
			t.Errorf("%v: %v, want %v", is, err, want)
		}
		wantPlain(t, fmt.Sprint(is), s, p)
	})
}

func TestEnterOthersHop(t *testing.T) {
	// 5 is no site of which a way leads to 1; 6 to 8 are none at all.
	w := world(5, 3, 4, 3, 3, 2, 2, 1, 1, 5)
	ways := map[int]int{2: 1, 3: 2, 4: 3}
	for origin := 2; origin <= 8; origin++ {
		for hops := 0; hops <= 8; hops++ {
			for hop := 0; hop <= 8; hop++ {
				w.Hops = hops
				s := New(1, w)
				way, is := ways[origin]
				if !is || way != hop || way > hops {
					wantRefused(t, "hop", s, comes(origin, 9, hop), api.ErrInput)
					continue
				}
				wantDone(t, "hop", s, comes(origin, 9, hop))
				if way < hops {
					wantWaits(t, "hop", s, 5, hop+1, 9)
				} else {
					wantWaits(t, "hop", s, 5, hop+1)
				}
			}
		}
	}
}

func TestEnterOthersOfAnExchangeThatIsNotThere(t *testing.T) {
	s := New(2, world(3, 2, 1, 2, 2, 3))
	wantDone(t, "no exchange", s, comes(1, 4, 1))
	wantWaits(t, "no exchange", s, 3, 2, 4)
	if !s.Has(api.Ident{Origin: 1, Seq: 4}) {
		t.Error("not seen")
	}
	wantRefused(t, "again", s, comes(1, 4, 1), api.ErrTaken)
	// The exchange comes too late.
	wantDone(t, "exchange", s, exchange("x", api.Fanout))
	wantDone(t, "queue", s, queue("q", 1))
	wantDone(t, "binding", s, binding("x", "q", ""))
	wantRefused(t, "again", s, comes(1, 4, 1), api.ErrTaken)
	wantTags(t, "again", s, "q", "|")
}

func TestEnterOthersInAnyOrder(t *testing.T) {
	s, p := made(t, 2, pair(), exchange("x", api.Fanout), queue("q", 9), binding("x", "q", ""))
	for _, seq := range []uint64{5, 3, top, 4, 1} {
		all(t, s, p, comes(1, seq, 1))
		wantRefused(t, "again", s, comes(1, seq, 1), api.ErrTaken)
	}
	want := []api.Range{{Lo: 1, Hi: 1}, {Lo: 3, Hi: 5}, {Lo: top, Hi: top}}
	if got := s.Parts().Seen; len(got) != 1 || got[0].Origin != 1 || !slices.Equal(got[0].Ranges, want) {
		t.Errorf("seen: %v, want %v", got, want)
	}
	wantTags(t, "in the order in which they came", s, "q", "1 2 3 4 5|")
}

func TestTakenIsToldAheadOfTheHop(t *testing.T) {
	s := New(2, pair())
	wantDone(t, "first", s, comes(1, 1, 1))
	for hop := range 9 {
		wantRefused(t, "again", s, comes(1, 1, hop), api.ErrTaken)
	}
}

// P14.1, onward

func TestOnwardIsNotBackToTheOrigin(t *testing.T) {
	s := New(2, triangle())
	wantDone(t, "of 1", s, comes(1, 1, 1))
	wantWaits(t, "of 1", s, 1, 2)
	wantWaits(t, "of 1", s, 3, 2, 1)
	wantDone(t, "of 3", s, comes(3, 5, 1))
	wantWaits(t, "of 3", s, 1, 2, 5)
	wantWaits(t, "of 3", s, 3, 2, 1)
	wantDone(t, "exchange", s, exchange("x", api.Fanout))
	wantDone(t, "own", s, comes(2, 1, 0))
	if l := s.Link(1); len(l) != 2 || l[0] != message(3, 5, 2, "x", "") || l[1] != message(2, 1, 1, "x", "") {
		t.Errorf("Link(1): %+v", l)
	}
	if l := s.Link(3); len(l) != 2 || l[0] != message(1, 1, 2, "x", "") || l[1] != message(2, 1, 1, "x", "") {
		t.Errorf("Link(3): %+v", l)
	}
}

func TestOnwardWithoutHops(t *testing.T) {
	s, _ := made(t, 1, world(2, 0, 1, 2, 2, 1), exchange("x", api.Fanout))
	wantDone(t, "own", s, comes(1, 1, 0))
	wantWaits(t, "own", s, 2, 1)
	wantRefused(t, "another's", s, comes(2, 1, 1), api.ErrInput)
	wantRefused(t, "another's", s, comes(2, 1, 0), api.ErrInput)
	s = New(1, world(2, 1, 1, 2, 2, 1))
	wantDone(t, "another's", s, comes(2, 1, 1))
	wantWaits(t, "another's", s, 2, 2)
}

// worlds calls do with all topologies of up to three sites, and up to three hops.
func worlds(do func(w api.Topology)) {
	for sites := 1; sites <= 3; sites++ {
		var edges []api.Edge
		for from := 1; from <= sites; from++ {
			for to := 1; to <= sites; to++ {
				if from != to {
					edges = append(edges, api.Edge{From: from, To: to})
				}
			}
		}
		each(len(edges), func(is []bool) {
			w := api.Topology{Sites: sites}
			for i, e := range edges {
				if is[i] {
					w.Edges = append(w.Edges, e)
				}
			}
			for w.Hops = 0; w.Hops <= 3; w.Hops++ {
				do(w)
			}
		})
	}
}

func TestEnterInEachWorld(t *testing.T) {
	worlds(func(w api.Topology) {
		for site := 1; site <= w.Sites; site++ {
			s, p := New(site, w), newPlain(site, w)
			do(t, "exchange", s, p, exchange("x", api.Fanout))
			for origin := 1; origin <= 4; origin++ {
				for hop := range 4 {
					do(t, fmt.Sprint(w), s, p, comes(origin, 1, hop))
				}
			}
			for to := 1; to <= 4; to++ {
				do(t, fmt.Sprint(w), s, p, sent(to, 2))
				do(t, fmt.Sprint(w), s, p, sent(to, 1))
			}
			wantPlain(t, fmt.Sprint(w, " at ", site), s, p)
		}
	})
}

// P14.1, the queues of a message

func TestEnterIntoTheQueuesThatFit(t *testing.T) {
	s, _ := made(t, 1, pair(),
		queue("z", 9), queue("a", 9), queue("m", 9),
		exchange("d", api.Direct), exchange("f", api.Fanout), exchange("t", api.Topic),
		binding("d", "z", "k"), binding("d", "a", "k"), binding("d", "m", ""),
		binding("f", "m", ""),
		binding("t", "z", "#"), binding("t", "z", "a.*"), binding("t", "a", "a"), binding("t", "m", "*.b"),
	)
	seq := uint64(0)
	for _, c := range []struct{ x, key, want string }{
		{"d", "k", "a z"}, {"d", "", "m"}, {"d", "l", ""},
		{"f", "", "m"}, {"f", "any.key", "m"},
		{"t", "a.b", "m z"}, {"t", "a", "a z"}, {"t", "", "z"}, {"t", "c.b", "m z"},
	} {
		seq++
		wantDone(t, c.x+" "+c.key, s, enter(message(1, seq, 0, c.x, c.key)), strings.Fields(c.want)...)
		for _, q := range s.Parts().Queues {
			n := len(q.Ready)
			if got := n > 0 && q.Ready[n-1].Message.Ident.Seq == seq; got != slices.Contains(strings.Fields(c.want), q.Name) {
				t.Errorf("%s %s: it is in %s: %v", c.x, c.key, q.Name, got)
			}
		}
	}
	wantTags(t, "in all", s, "z", "1 2 3 4 5|")
	wantTags(t, "in all", s, "a", "1 2|")
	wantTags(t, "in all", s, "m", "1 2 3 4 5|")
}

func TestEnterPushesTheMessageAsItIs(t *testing.T) {
	s, _ := made(t, 2, pair(), exchange("t", api.Topic), queue("q", 1), binding("t", "q", "#"))
	m := api.Message{Ident: api.Ident{Origin: 1, Seq: 77}, Hop: 1, Exchange: "t", Key: "a.b", Body: "\x00\xff body"}
	wantDone(t, "enter", s, enter(m), "q")
	if q, _ := s.Queue("q"); !slices.Equal(q.Ready, []api.Item{{Tag: 1, Message: m}}) || q.Next != 2 {
		t.Errorf("Queue: %+v", q)
	}
}

func TestBindingsOfQueuesThatAreNotThere(t *testing.T) {
	parts := Parts{
		Exchanges: []api.Exchange{{Name: "x", Kind: api.Fanout}},
		Bindings:  []api.Binding{{Exchange: "x", Queue: "a"}, {Exchange: "x", Queue: "q"}, {Exchange: "x", Queue: "z"}},
		Queues:    []QueuePart{{Name: "q", Most: 3, Next: 1}},
	}
	s, _ := read(t, 1, pair(), parts)
	wantDone(t, "enter", s, comes(1, 1, 0), "q")
	wantRefused(t, "bind", s, binding("x", "a", ""), api.ErrMissing)
	wantRefused(t, "no queue", s, noQueue("a"), api.ErrMissing)
	wantDone(t, "unbind", s, unbinding("x", "a", ""))
	wantDone(t, "queue", s, queue("z", 3))
	wantDone(t, "enter", s, comes(1, 2, 0), "q", "z")
}

// P14.1, room

func TestEnterWithoutRoomInAQueue(t *testing.T) {
	s, p := made(t, 1, pair(), exchange("x", api.Fanout), exchange("d", api.Direct),
		queue("a", 5), queue("m", 2), queue("z", 5),
		binding("x", "a", ""), binding("x", "m", ""), binding("x", "z", ""), binding("d", "a", ""),
		comes(1, 1, 0), comes(1, 2, 0))
	wantRefused(t, "full", s, comes(1, 3, 0), api.ErrSpace)
	wantRefused(t, "full", s, comes(2, 1, 1), api.ErrSpace)
	if s.Has(api.Ident{Origin: 2, Seq: 1}) || s.Has(api.Ident{Origin: 1, Seq: 3}) {
		t.Error("what had no room was seen")
	}
	// What is out counts as well.
	all(t, s, p, give("m"))
	wantRefused(t, "one is out", s, comes(1, 3, 0), api.ErrSpace)
	all(t, s, p, give("m"), back("m", 1))
	wantRefused(t, "both are there", s, comes(2, 1, 1), api.ErrSpace)
	// A queue that it does not go into is not in the way.
	all(t, s, p, enter(message(1, 3, 0, "d", "")))
	all(t, s, p, ack("m", 2), comes(2, 1, 1))
	wantRefused(t, "full again", s, comes(1, 4, 0), api.ErrSpace)
	all(t, s, p, unbinding("x", "m", ""), comes(1, 4, 0))
	wantTags(t, "in the end", s, "m", "-1 3|")
	wantTags(t, "in the end", s, "a", "1 2 3 4 5|")
	wantTags(t, "in the end", s, "z", "1 2 3 4|")
}

func TestEnterAtTheLastTag(t *testing.T) {
	parts := sieged{}.parts()
	parts.Queues[1].Most, parts.Queues[1].Next = 5, top-1
	s, _ := read(t, 1, pair(), parts)
	wantDone(t, "the last one but one", s, comes(1, 1, 0), "q", "r")
	wantTags(t, "the last one", s, "r", fmt.Sprint(uint64(top-1), "|"))
	wantRefused(t, "no tag is left", s, comes(1, 2, 0), api.ErrSpace)
	wantRefused(t, "no tag is left", s, comes(2, 2, 1), api.ErrSpace)
	wantTags(t, "nothing was pushed", s, "q", "1|")
	wantDone(t, "unbind", s, unbinding("x", "r", ""))
	wantDone(t, "without it", s, comes(1, 2, 0), "q")
}

func TestEnterWithoutRoomForALink(t *testing.T) {
	s, p := made(t, 1, triangle(), exchange("x", api.Fanout), local("l", api.Fanout), queue("q", 1000), binding("x", "q", ""))
	for seq := uint64(1); seq <= 200; seq++ {
		wantDone(t, "up to the limit", s, comes(1, seq, 0), "q")
		p.apply(comes(1, seq, 0))
	}
	wantPlain(t, "full", s, p)
	wantRefused(t, "one more", s, comes(1, 201, 0), api.ErrSpace)
	wantRefused(t, "another's", s, comes(2, 1, 1), api.ErrSpace)
	// What does not go onward is not in the way.
	all(t, s, p, enter(message(1, 201, 0, "l", "")))
	all(t, s, p, sent(2, 1))
	wantRefused(t, "one way is free", s, comes(1, 202, 0), api.ErrSpace)
	wantRefused(t, "of 2, to 3", s, comes(2, 1, 1), api.ErrSpace)
	all(t, s, p, comes(3, 1, 1))
	wantRefused(t, "of 3, to 2", s, comes(3, 2, 1), api.ErrSpace)
	all(t, s, p, sent(2, 200), sent(3, 200))
	all(t, s, p, comes(1, 202, 0), comes(2, 1, 1), comes(3, 2, 1))
	want := []api.Message{message(1, 202, 1, "x", ""), message(3, 2, 2, "x", "")}
	if got := s.Link(2); !slices.Equal(got, want) {
		t.Errorf("in the end %+v wait for 2, want %+v", got, want)
	}
}

func TestEnterAtTheLastHopNeedsNoLink(t *testing.T) {
	parts := Parts{Links: []LinkPart{{To: 2, Messages: many(200)}}}
	s, _ := read(t, 1, world(3, 1, 1, 2, 3, 1), parts)
	wantDone(t, "at the last hop", s, comes(3, 1, 1))
	s, _ = read(t, 1, world(3, 2, 1, 2, 3, 1), parts)
	wantRefused(t, "one hop more", s, comes(3, 1, 1), api.ErrSpace)
}

// P14.1, what is given out

func TestGiveAckBack(t *testing.T) {
	s, _ := made(t, 1, pair(), queue("q", 3), queue("r", 3), exchange("x", api.Fanout), binding("x", "q", ""),
		comes(1, 1, 0), comes(1, 2, 0), comes(1, 3, 0))
	for _, a := range []api.Act{give("none"), ack("none", 1), back("none", 1), give("x"), ack("x", 1), back("x", 1)} {
		wantRefused(t, "missing", s, a, api.ErrMissing)
	}
	for _, a := range []api.Act{give("r"), ack("r", 1), back("r", 1), ack("q", 1), back("q", 1), ack("q", 4), back("q", top)} {
		wantRefused(t, "stale", s, a, api.ErrStale)
	}
	wantDone(t, "give", s, give("q"))
	wantDone(t, "give", s, give("q"))
	wantTags(t, "two are out", s, "q", "3|1 2")
	wantRefused(t, "not out", s, ack("q", 3), api.ErrStale)
	wantRefused(t, "of another queue", s, ack("r", 1), api.ErrStale)
	wantDone(t, "ack", s, ack("q", 2))
	wantRefused(t, "done", s, ack("q", 2), api.ErrStale)
	wantRefused(t, "done", s, back("q", 2), api.ErrStale)
	wantTags(t, "one is done", s, "q", "3|1")
	wantDone(t, "back", s, back("q", 1))
	wantRefused(t, "ready", s, back("q", 1), api.ErrStale)
	wantTags(t, "it is back", s, "q", "-1 3|")
	wantDone(t, "give", s, give("q"))
	wantTags(t, "the least tag", s, "q", "3|-1")
	wantDone(t, "give", s, give("q"))
	wantRefused(t, "nothing is ready", s, give("q"), api.ErrStale)
	wantTags(t, "all are out", s, "q", "|-1 3")
	if q, _ := s.Queue("q"); q.Next != 4 {
		t.Errorf("Next %d", q.Next)
	}
}

// P14.1, ActSent

func TestSent(t *testing.T) {
	s, _ := made(t, 1, world(4, 3, 1, 2, 1, 3, 4, 1), exchange("x", api.Fanout), comes(1, 1, 0), comes(1, 2, 0), comes(1, 3, 0))
	for _, to := range []int{1, 4, 5, 8} {
		wantRefused(t, "no edge", s, sent(to, 1), api.ErrMissing)
		wantRefused(t, "no edge", s, sent(to, 200), api.ErrMissing)
	}
	wantRefused(t, "fewer wait", s, sent(2, 4), api.ErrStale)
	wantRefused(t, "fewer wait", s, sent(2, 200), api.ErrStale)
	wantDone(t, "the first one", s, sent(2, 1))
	wantWaits(t, "two are left", s, 2, 1, 2, 3)
	wantWaits(t, "of the other", s, 3, 1, 1, 2, 3)
	wantRefused(t, "fewer wait", s, sent(2, 3), api.ErrStale)
	wantDone(t, "all of them", s, sent(2, 2))
	wantWaits(t, "none is left", s, 2, 1)
	wantRefused(t, "none waits", s, sent(2, 1), api.ErrStale)
	if l := s.Parts().Links; len(l) != 1 || l[0].To != 3 {
		t.Errorf("links: %+v", l)
	}
	wantDone(t, "one more", s, comes(1, 4, 0))
	wantWaits(t, "one more", s, 2, 1, 4)
	wantWaits(t, "one more", s, 3, 1, 1, 2, 3, 4)
	if !s.Has(api.Ident{Origin: 1, Seq: 1}) {
		t.Error("what was sent is seen no more")
	}
}

func TestSentOfEachNumber(t *testing.T) {
	for _, n := range []int{1, 2, 3, 199, 200} {
		for have := max(1, n-1); have <= 200; have += 33 {
			s, _ := read(t, 1, pair(), Parts{Links: []LinkPart{{To: 2, Messages: many(have)}}})
			if n > have {
				wantRefused(t, "fewer wait", s, sent(2, n), api.ErrStale)
				continue
			}
			wantDone(t, "sent", s, sent(2, n))
			if got := s.Link(2); !slices.Equal(got, many(have)[n:]) {
				t.Errorf("%d of %d: %d are left", n, have, len(got))
			}
		}
	}
}

// P14.1, ActBoot

func TestBoot(t *testing.T) {
	s, p := busy(t)
	wantTags(t, "ahead", s, "q", "-2 3|-1")
	wantTags(t, "ahead", s, "p", "-1 3|")
	wantTags(t, "ahead", s, "r", "|1")
	was := s.Parts()
	wantDone(t, "boot", s, boot())
	p.apply(boot())
	wantTags(t, "behind", s, "q", "-1 -2 3|")
	wantTags(t, "behind", s, "p", "-1 3|")
	wantTags(t, "behind", s, "r", "-1|")
	is := s.Parts()
	if is.Boots != was.Boots+1 || is.Seq != was.Seq || len(is.Links) != len(was.Links) || len(is.Seen) != len(was.Seen) {
		t.Errorf("boot: %+v, was %+v", is, was)
	}
	wantPlain(t, "boot", s, p)
	wantDone(t, "boot", s, boot())
	wantDone(t, "boot", s, boot())
	if n := s.Parts().Boots; n != was.Boots+3 {
		t.Errorf("Boots %d", n)
	}
}

func TestBootAtTheLastNumber(t *testing.T) {
	item := api.Item{Tag: 1, Message: message(1, 1, 0, "x", "")}
	s, _ := read(t, 1, pair(), Parts{Boots: top - 1, Queues: []QueuePart{{Name: "q", Most: 2, Next: 2, Out: []api.Item{item}}}})
	wantDone(t, "the last one", s, boot())
	wantTags(t, "the last one", s, "q", "-1|")
	for range 2 {
		wantDone(t, "give", s, give("q"))
		wantDone(t, "it goes around nowhere", s, boot())
		wantTags(t, "behind the last one", s, "q", "-1|")
		if n := s.Parts().Boots; n != top {
			t.Errorf("Boots %d", n)
		}
	}
}

// P14.2

func TestPartsAreInOrder(t *testing.T) {
	s, p := made(t, 5, world(8, 3, 5, 8, 5, 1, 5, 3, 7, 5, 2, 5, 8, 5))
	names := []string{"b", "a", "ab", "z", "-", "_", "0", "aa"}
	for _, name := range names {
		all(t, s, p, queue(name, 3), local(name, api.Direct))
	}
	for _, x := range []string{"z", "_", "a"} {
		for _, q := range []string{"ab", "a", "-"} {
			for _, pattern := range []string{"b", "", "a.b", "a-b"} {
				if x != "a" || pattern != "" {
					do(t, "bind", s, p, binding(x, q, pattern))
				}
			}
		}
	}
	for _, origin := range []int{8, 2, 7} {
		all(t, s, p, comes(origin, 9, 1), comes(origin, 2, 1))
	}
	parts := s.Parts()
	if !rise(parts.Exchanges, byExchange) || !rise(parts.Bindings, byBinding) || !rise(parts.Queues, byQueue) || !rise(parts.Seen, bySeen) || !rise(parts.Links, byLink) {
		t.Errorf("not in order: %+v", parts)
	}
	if len(parts.Exchanges) != 8 || len(parts.Bindings) != 32 || len(parts.Queues) != 8 || len(parts.Seen) != 3 || len(parts.Links) != 3 {
		t.Errorf("not all: %+v", parts)
	}
	if q := parts.Queues; q[0].Name != "-" || q[1].Name != "0" || q[2].Name != "_" || q[3].Name != "a" || q[4].Name != "aa" {
		t.Errorf("not by bytes: %+v", q)
	}
}

func TestPartsTellOnlyWhatHasSomething(t *testing.T) {
	s, p := made(t, 1, triangle(), exchange("x", api.Fanout), queue("q", 1))
	if parts := s.Parts(); len(parts.Seen) != 0 || len(parts.Links) != 0 || len(parts.Queues) != 1 {
		t.Errorf("new: %+v", parts)
	}
	all(t, s, p, comes(2, 1, 1))
	if parts := s.Parts(); len(parts.Seen) != 1 || len(parts.Links) != 1 || parts.Seen[0].Origin != 2 || parts.Links[0].To != 3 {
		t.Errorf("one came: %+v", parts)
	}
	all(t, s, p, sent(3, 1))
	if parts := s.Parts(); len(parts.Seen) != 1 || len(parts.Links) != 0 {
		t.Errorf("it was sent: %+v", parts)
	}
}

func TestFromUndoesParts(t *testing.T) {
	s, p := busy(t)
	other, err := From(1, triangle(), s.Parts())
	if err != api.OK {
		t.Fatal(err)
	}
	wantPlain(t, "read", other, p)
	for _, a := range oneOfEach() {
		do(t, "behind From", other, p, a)
		wantPlain(t, "behind From", other, p)
	}
	none, err := From(2, pair(), Parts{})
	if err != api.OK {
		t.Fatal(err)
	}
	wantPlain(t, "of nothing", none, newPlain(2, pair()))
	empty := Parts{Exchanges: []api.Exchange{}, Bindings: []api.Binding{}, Queues: []QueuePart{{Name: "q", Most: 1, Next: 1, Ready: []api.Item{}, Out: []api.Item{}}}, Seen: []SeenPart{}, Links: []LinkPart{}}
	read(t, 1, pair(), empty)
}

// rich are parts with several of everything, of site 2 of the triangle.
func rich() Parts {
	item := func(tag uint64, again bool) api.Item {
		return api.Item{Tag: tag, Message: message(1, tag, 1, "x", ""), Again: again}
	}
	return Parts{
		Seq:   4,
		Boots: 2,
		Exchanges: []api.Exchange{
			{Name: "a", Kind: api.Direct}, {Name: "b", Kind: api.Fanout, Federated: true}, {Name: "c", Kind: api.Topic},
		},
		Bindings: []api.Binding{
			{Exchange: "a", Queue: "p", Pattern: "k"}, {Exchange: "a", Queue: "q"}, {Exchange: "a", Queue: "q", Pattern: "k"},
			{Exchange: "b", Queue: "q"}, {Exchange: "c", Queue: "p", Pattern: "#"}, {Exchange: "c", Queue: "p", Pattern: "a.*"},
		},
		Queues: []QueuePart{
			{Name: "p", Most: 4, Next: 9, Ready: []api.Item{item(2, false), item(5, true)}, Out: []api.Item{item(3, false), item(8, true)}},
			{Name: "q", Most: 1, Next: 1},
			{Name: "r", Most: 1000, Next: top, Ready: []api.Item{item(top-1, false)}},
		},
		Seen: []SeenPart{
			{Origin: 1, Ranges: []api.Range{{Lo: 1, Hi: 3}, {Lo: 5, Hi: 9}}}, {Origin: 2, Ranges: []api.Range{{Lo: 1, Hi: 4}}}, {Origin: 3, Ranges: []api.Range{{Lo: 7, Hi: top}}},
		},
		Links: []LinkPart{
			{To: 1, Messages: []api.Message{message(2, 1, 1, "b", ""), message(3, 9, 2, "x", "a.b")}},
			{To: 3, Messages: []api.Message{message(2, 1, 1, "b", "")}},
		},
	}
}

// meddling is a change of rich parts.
type meddling struct {
	what string
	do   func(p *Parts)
}

// swapped and doubled meddle with the list that they are told.
func swapped[T any](list func(p *Parts) *[]T) func(p *Parts) {
	return func(p *Parts) {
		l := *list(p)
		l[0], l[1] = l[1], l[0]
	}
}

func doubled[T any](list func(p *Parts) *[]T) func(p *Parts) {
	return func(p *Parts) {
		l := list(p)
		*l = slices.Insert(*l, 1, (*l)[0])
	}
}

func exchangesOf(p *Parts) *[]api.Exchange { return &p.Exchanges }

func bindingsOf(p *Parts) *[]api.Binding { return &p.Bindings }

func queuesOf(p *Parts) *[]QueuePart { return &p.Queues }

func seenOf(p *Parts) *[]SeenPart { return &p.Seen }

func linksOf(p *Parts) *[]LinkPart { return &p.Links }

// wrongTables are meddlings of exchanges and bindings of which no state is.
func wrongTables() []meddling {
	return []meddling{
		{"exchanges in another order", swapped(exchangesOf)},
		{"an exchange twice", doubled(exchangesOf)},
		{"an exchange twice, apart", func(p *Parts) { p.Exchanges = append(p.Exchanges, p.Exchanges[0]) }},
		{"an exchange twice, of other kinds", func(p *Parts) {
			p.Exchanges = slices.Insert(p.Exchanges, 1, api.Exchange{Name: "a", Kind: api.Topic})
		}},
		{"an exchange of no kind", func(p *Parts) { p.Exchanges[0].Kind = 0 }},
		{"an exchange of no kind", func(p *Parts) { p.Exchanges[0].Kind = 4 }},
		{"an exchange without a name", func(p *Parts) { p.Exchanges = slices.Insert(p.Exchanges, 0, api.Exchange{Kind: api.Topic}) }},
		{"an exchange with a name that is none", func(p *Parts) {
			p.Exchanges = slices.Insert(p.Exchanges, 0, api.Exchange{Name: "A", Kind: api.Topic})
		}},
		{"nine exchanges", func(p *Parts) {
			for i := range 6 {
				p.Exchanges = append(p.Exchanges, api.Exchange{Name: fmt.Sprint("x", i), Kind: api.Topic})
			}
		}},
		{"bindings in another order", swapped(bindingsOf)},
		{"bindings in another order, by patterns", func(p *Parts) { p.Bindings[1], p.Bindings[2] = p.Bindings[2], p.Bindings[1] }},
		{"a binding twice", doubled(bindingsOf)},
		{"a binding twice, apart", func(p *Parts) { p.Bindings = append(p.Bindings, p.Bindings[0]) }},
		{"a binding of no exchange", func(p *Parts) { p.Bindings = append(p.Bindings, api.Binding{Exchange: "x", Queue: "q"}) }},
		{"a binding of a queue without a name", func(p *Parts) { p.Bindings[3].Queue = "" }},
		{"a binding of a queue with a name that is none", func(p *Parts) { p.Bindings[3].Queue = "q.q" }},
		{"a pattern at a direct exchange", func(p *Parts) { p.Bindings[0].Pattern = "#" }},
		{"a key at a fanout exchange", func(p *Parts) { p.Bindings[3].Pattern = "k" }},
		{"no pattern at a topic exchange", func(p *Parts) { p.Bindings[5].Pattern = "a..b" }},
		{"33 bindings", func(p *Parts) {
			for i := range 27 {
				p.Bindings = append(p.Bindings, api.Binding{Exchange: "c", Queue: "z", Pattern: fmt.Sprint(10 + i)})
			}
		}},
		{"bindings without exchanges", func(p *Parts) { p.Exchanges = nil }},
	}
}

// wrongQueues are meddlings of queues of which no state is.
func wrongQueues() []meddling {
	return []meddling{
		{"queues in another order", swapped(queuesOf)},
		{"a queue twice", doubled(queuesOf)},
		{"a queue twice, other", func(p *Parts) { p.Queues[1].Name = "p" }},
		{"a queue twice, apart", func(p *Parts) { p.Queues = append(p.Queues, p.Queues[0]) }},
		{"a queue without a name", func(p *Parts) { p.Queues[0].Name = "" }},
		{"a queue with a name that is none", func(p *Parts) { p.Queues[0].Name = "P" }},
		{"a queue with a long name", func(p *Parts) { p.Queues[0].Name = strings.Repeat("p", 21) }},
		{"a queue for none", func(p *Parts) { p.Queues[1].Most = 0 }},
		{"a queue for less than none", func(p *Parts) { p.Queues[1].Most = -1 }},
		{"a queue for too many", func(p *Parts) { p.Queues[1].Most = 1001 }},
		{"a queue with more than it holds", func(p *Parts) { p.Queues[0].Most = 3 }},
		{"no next tag", func(p *Parts) { p.Queues[1].Next = 0 }},
		{"a tag that is to come", func(p *Parts) { p.Queues[0].Next = 8 }},
		{"a tag of 0", func(p *Parts) { p.Queues[0].Ready[0].Tag = 0 }},
		{"a tag of 0 that is out", func(p *Parts) { p.Queues[0].Out[0].Tag = 0 }},
		{"tags that do not rise", func(p *Parts) { p.Queues[0].Ready[0].Tag = 5 }},
		{"tags that fall", func(p *Parts) { p.Queues[0].Out[0].Tag, p.Queues[0].Out[1].Tag = 8, 3 }},
		{"a tag that is ready and out", func(p *Parts) { p.Queues[0].Out[0].Tag = 5 }},
		{"17 queues", func(p *Parts) { p.Queues = empties(17) }},
		{"17 queues, one twice", func(p *Parts) { p.Queues = append(empties(16), empties(16)[15]) }},
	}
}

// empties are queues without messages.
func empties(n int) []QueuePart {
	var l []QueuePart
	for i := range n {
		l = append(l, QueuePart{Name: fmt.Sprint("q", 10+i), Most: 1, Next: 1})
	}
	return l
}

// wrongSeens and wrongLinks are meddlings of the lists by numbers of which no state is.
func wrongSeens() []meddling {
	return []meddling{
		{"origins in another order", swapped(seenOf)},
		{"an origin twice", doubled(seenOf)},
		{"an origin twice, other", func(p *Parts) { p.Seen[1].Origin = 1 }},
		{"an origin twice, apart", func(p *Parts) { p.Seen = append(p.Seen, p.Seen[0]) }},
		{"origin 0", func(p *Parts) { p.Seen[0].Origin = 0 }},
		{"origin -1", func(p *Parts) { p.Seen[0].Origin = -1 }},
		{"origin 9", func(p *Parts) { p.Seen[2].Origin = 9 }},
		{"the least origin", func(p *Parts) { p.Seen[0].Origin = math.MinInt }},
		{"the greatest origin", func(p *Parts) { p.Seen[2].Origin = math.MaxInt }},
		{"an origin without ranges", func(p *Parts) { p.Seen[1].Ranges = nil }},
		{"an origin with an empty list", func(p *Parts) { p.Seen[1].Ranges = []api.Range{} }},
		{"one more without ranges", func(p *Parts) { p.Seen = append(p.Seen, SeenPart{Origin: 4}) }},
		{"a range from 0", func(p *Parts) { p.Seen[0].Ranges[0].Lo = 0 }},
		{"a range backwards", func(p *Parts) { p.Seen[1].Ranges[0] = api.Range{Lo: 4, Hi: 3} }},
		{"ranges that touch", func(p *Parts) { p.Seen[0].Ranges[1].Lo = 4 }},
		{"ranges that are over each other", func(p *Parts) { p.Seen[0].Ranges[1].Lo = 2 }},
		{"a range twice", func(p *Parts) { p.Seen[0].Ranges[1] = p.Seen[0].Ranges[0] }},
		{"ranges in another order", func(p *Parts) { slices.Reverse(p.Seen[0].Ranges) }},
	}
}

func wrongLinks() []meddling {
	return []meddling{
		{"links in another order", swapped(linksOf)},
		{"a link twice", doubled(linksOf)},
		{"a link twice, other", func(p *Parts) { p.Links[1].To = 1 }},
		{"a link twice, apart", func(p *Parts) { p.Links = append(p.Links, p.Links[0]) }},
		{"a link to the site itself", func(p *Parts) { p.Links[1].To = 2 }},
		{"a link to 0", func(p *Parts) { p.Links[0].To = 0 }},
		{"a link to -1", func(p *Parts) { p.Links[0].To = -1 }},
		{"a link to no site", func(p *Parts) { p.Links[1].To = 4 }},
		{"a link far beyond", func(p *Parts) { p.Links[1].To = math.MaxInt }},
		{"a link without messages", func(p *Parts) { p.Links[0].Messages = nil }},
		{"a link with an empty list", func(p *Parts) { p.Links[1].Messages = []api.Message{} }},
		{"a link with too many", func(p *Parts) { p.Links[1].Messages = many(201) }},
		{"a message that is zero", func(p *Parts) { p.Links[0].Messages[1] = api.Message{} }},
		{"a message of no origin", func(p *Parts) { p.Links[0].Messages[0].Ident.Origin = 9 }},
		{"a message without a number", func(p *Parts) { p.Links[0].Messages[1].Ident.Seq = 0 }},
		{"a message of less than no hops", func(p *Parts) { p.Links[0].Messages[1].Hop = -1 }},
		{"a message of too many hops", func(p *Parts) { p.Links[0].Messages[1].Hop = 9 }},
		{"a message without an exchange", func(p *Parts) { p.Links[0].Messages[1].Exchange = "" }},
		{"a message with no key", func(p *Parts) { p.Links[0].Messages[1].Key = "a." }},
		{"a message with a long body", func(p *Parts) { p.Links[1].Messages[0].Body = strings.Repeat("b", 201) }},
		{"a bad message as the last of many", func(p *Parts) {
			p.Links[1].Messages = many(200)
			p.Links[1].Messages[199].Hop = 9
		}},
	}
}

func wrongs() []meddling {
	return slices.Concat(wrongTables(), wrongQueues(), wrongSeens(), wrongLinks())
}

func TestFromOfDamage(t *testing.T) {
	read(t, 2, triangle(), rich())
	for _, m := range wrongs() {
		p := rich()
		m.do(&p)
		if right(2, triangle(), p) {
			t.Fatalf("%s is right", m.what)
		}
		if s, err := From(2, triangle(), p); s != nil || err != api.ErrDamage {
			t.Errorf("%s: %v %v, want damage", m.what, s, err)
		}
	}
}

func TestFromForAnotherSite(t *testing.T) {
	for _, site := range everySite() {
		s, err := From(site, triangle(), rich())
		if want := site == 2; (err == api.OK) != want || (s != nil) != want {
			t.Errorf("at %d: %v", site, err)
		}
	}
	for _, w := range append(wrongWorlds(), world(3, 2, 2, 1), world(3, 2, 2, 3, 1, 2, 1, 3), world(3, 2)) {
		if s, err := From(2, w, rich()); s != nil || err != api.ErrDamage {
			t.Errorf("of %v: %v", w, err)
		}
	}
	read(t, 2, world(3, 0, 2, 3, 2, 1), rich())
}

// odd are meddlings of which no acts lead to the state, but nothing that the chapter names is wrong.
func odd() []meddling {
	return []meddling{
		{"nothing", func(*Parts) {}},
		{"any numbers", func(p *Parts) { p.Seq, p.Boots = top, top }},
		{"no numbers", func(p *Parts) { p.Seq, p.Boots = 0, 0 }},
		{"no queues", func(p *Parts) { p.Queues = nil }},
		{"nothing was seen", func(p *Parts) { p.Seen = nil }},
		{"no links", func(p *Parts) { p.Links = nil }},
		{"no bindings", func(p *Parts) { p.Bindings = nil }},
		{"no exchanges and bindings", func(p *Parts) { p.Exchanges, p.Bindings = nil, nil }},
		{"origins that are no sites", func(p *Parts) { p.Seen[2].Origin = 8 }},
		{"all numbers were seen", func(p *Parts) { p.Seen[1].Ranges = []api.Range{{Lo: 1, Hi: top}} }},
		{"items that are no messages", func(p *Parts) { p.Queues[0].Ready[0].Message = api.Message{Hop: -1, Body: strings.Repeat("b", 500)} }},
		{"a message in a queue twice", func(p *Parts) { p.Queues[0].Out[0].Message = p.Queues[0].Ready[0].Message }},
		{"messages of other hops", func(p *Parts) { p.Links[0].Messages[0].Hop, p.Links[0].Messages[1].Hop = 0, 8 }},
		{"messages of other origins", func(p *Parts) { p.Links[0].Messages[0].Ident.Origin = 8 }},
		{"messages in any order", func(p *Parts) { slices.Reverse(p.Links[0].Messages) }},
		{"a message that waits twice", func(p *Parts) { p.Links[0].Messages[1] = p.Links[0].Messages[0] }},
		{"a link that is full", func(p *Parts) { p.Links[1].Messages = many(200) }},
		{"16 queues", func(p *Parts) { p.Queues = empties(16) }},
		{"a queue for the most", func(p *Parts) { p.Queues[1].Most = 1000 }},
		{"a queue that is full", func(p *Parts) {
			q := QueuePart{Name: "r", Most: 1000, Next: 1001}
			for tag := range uint64(1000) {
				q.Ready = append(q.Ready, api.Item{Tag: tag + 1, Message: message(1, tag+1, 1, "x", "")})
			}
			p.Queues[2] = q
		}},
		{"eight exchanges", func(p *Parts) {
			for i := range 5 {
				p.Exchanges = append(p.Exchanges, api.Exchange{Name: fmt.Sprint("x", i), Kind: api.Topic})
			}
		}},
		{"32 bindings", func(p *Parts) {
			for i := range 26 {
				p.Bindings = append(p.Bindings, api.Binding{Exchange: "c", Queue: "z", Pattern: fmt.Sprint(10 + i)})
			}
		}},
	}
}

func TestFromOfOddParts(t *testing.T) {
	for _, m := range odd() {
		parts := rich()
		m.do(&parts)
		if !right(2, triangle(), parts) {
			t.Fatalf("%s is wrong", m.what)
		}
		s, p := read(t, 2, triangle(), parts)
		again, err := From(2, triangle(), s.Parts())
		if err != api.OK {
			t.Fatalf("%s: %v of its Parts", m.what, err)
		}
		wantPlain(t, m.what, again, p)
		for _, a := range []api.Act{enter(message(1, 4, 1, "b", "k")), enter(message(2, 5, 0, "c", "a.b")), give("p"), ack("p", 3), back("p", 8), sent(1, 2), sent(3, 1), noQueue("p")} {
			do(t, m.what, s, p, a)
			wantPlain(t, m.what, s, p)
		}
	}
}

// P14.3

func TestHas(t *testing.T) {
	s, _ := read(t, 2, triangle(), rich())
	for _, c := range []struct {
		origin int
		seq    uint64
		want   bool
	}{
		{1, 1, true}, {1, 3, true}, {1, 4, false}, {1, 5, true}, {1, 9, true}, {1, 10, false}, {1, 0, false}, {1, top, false},
		{2, 4, true}, {2, 5, false}, {3, 6, false}, {3, 7, true}, {3, top, true}, {3, 0, false},
		{4, 1, false}, {0, 1, false}, {-1, 1, false}, {9, 1, false}, {math.MaxInt, 1, false}, {math.MinInt, 0, false},
	} {
		if got := s.Has(api.Ident{Origin: c.origin, Seq: c.seq}); got != c.want {
			t.Errorf("Has(%d, %d): %v", c.origin, c.seq, got)
		}
	}
}

func TestLinkAndQueue(t *testing.T) {
	s, _ := read(t, 2, triangle(), rich())
	for _, to := range everySite() {
		var want []api.Message
		for _, l := range rich().Links {
			if l.To == to {
				want = l.Messages
			}
		}
		if got := s.Link(to); !slices.Equal(got, want) {
			t.Errorf("Link(%d): %+v, want %+v", to, got, want)
		}
	}
	for _, want := range rich().Queues {
		if got, is := s.Queue(want.Name); !is || !sameQueue(got, want) {
			t.Errorf("Queue(%q): %+v %v, want %+v", want.Name, got, is, want)
		}
	}
	for _, name := range []string{"", "a", "b", "pp", "P", "q ", "z", strings.Repeat("q", 1<<20)} {
		if got, is := s.Queue(name); is || !sameQueue(got, QueuePart{}) {
			t.Errorf("Queue(%q): %+v %v", name, got, is)
		}
	}
}

func TestCopy(t *testing.T) {
	s, p := busy(t)
	acts := append(oneOfEach(), queue("more", 2), exchange("y", api.Topic), binding("x", "r", ""), unbinding("d", "r", "k"), noExchange("x"), give("p"), ack("r", 1), sent(3, 2), comes(1, 3, 0))
	for _, a := range acts {
		one, was := s.Copy(), p.copied()
		wantPlain(t, "a copy", one, p)
		do(t, "the copy", one, was, a)
		wantPlain(t, "the copy is other", one, was)
		wantPlain(t, "the first one is as it was", s, p)

		two, kept := s.Copy(), p.copied()
		do(t, "the first one", s, p, a)
		wantPlain(t, "the first one is other", s, p)
		wantPlain(t, "the copy is as it was", two, kept)
		s, p = two, kept
	}
	read, _ := From(1, triangle(), s.Parts())
	wantPlain(t, "a copy of a copy of what was read", read.Copy().Copy(), p)
	wantParts(t, "a copy of a new one", New(1, pair()).Copy(), Parts{})
}

// A state that no call made

func TestUnmade(t *testing.T) {
	var none *State
	for what, s := range map[string]*State{"nil": none, "zero": {}} {
		for _, a := range append(oneOfEach(), api.Act{}, api.Act{Kind: 13}, sent(-1, -1)) {
			if told, err := s.Apply(a); err != api.ErrUnmade || len(told) != 0 {
				t.Errorf("%s: Apply(%+v): %v %v", what, a, told, err)
			}
		}
		if p := s.Parts(); !sameParts(p, Parts{}) {
			t.Errorf("%s: Parts: %+v", what, p)
		}
		if c := s.Copy(); c != nil {
			t.Errorf("%s: Copy: %v", what, c)
		}
		if s.Has(api.Ident{Origin: 1, Seq: 1}) || s.Has(api.Ident{}) {
			t.Errorf("%s: Has", what)
		}
		for _, n := range everySite() {
			if l := s.Link(n); len(l) != 0 {
				t.Errorf("%s: Link(%d): %v", what, n, l)
			}
		}
		for _, name := range []string{"", "q"} {
			if q, is := s.Queue(name); is || !sameQueue(q, QueuePart{}) {
				t.Errorf("%s: Queue(%q): %+v %v", what, name, q, is)
			}
		}
	}
}

// P14.4

// letters are acts of which all short rows are tried.
func letters() []api.Act {
	return []api.Act{
		queue("q", 1), queue("q", 2), queue("r", 1), noQueue("q"),
		exchange("x", api.Fanout), exchange("x", api.Topic), local("x", api.Fanout), noExchange("x"),
		binding("x", "q", ""), binding("x", "r", "#"), unbinding("x", "q", ""),
		comes(1, 1, 0), comes(1, 2, 0), comes(2, 1, 1), comes(2, 2, 1), comes(3, 1, 1), comes(2, 1, 2),
		give("q"), give("r"), ack("q", 1), back("q", 1), ack("q", 2),
		sent(2, 1), sent(3, 2), sent(1, 1), boot(),
	}
}

// rows goes on from a state with each row of n acts, each in a copy, and looks at the whole behind each act.
func rows(t *testing.T, s *State, p *plain, n int) {
	if n == 0 {
		return
	}
	for _, a := range letters() {
		next, plain := s.Copy(), p.copied()
		do(t, "a short row", next, plain, a)
		if got := next.Parts(); !sameParts(got, plain.parts()) {
			t.Fatalf("%+v behind %+v: %+v, want %+v", a, p.parts(), got, plain.parts())
		}
		rows(t, next, plain, n-1)
	}
	if got := s.Parts(); !sameParts(got, p.parts()) {
		t.Fatalf("copies changed %+v to %+v", p.parts(), got)
	}
}

func TestEachShortRow(t *testing.T) {
	for _, begin := range [][]api.Act{
		nil,
		{exchange("x", api.Fanout), queue("q", 2)},
		{exchange("x", api.Topic), queue("q", 1), queue("r", 2), binding("x", "q", ""), binding("x", "r", "#")},
		{exchange("x", api.Fanout), queue("q", 2), binding("x", "q", ""), comes(1, 1, 0), comes(2, 1, 1), give("q")},
	} {
		s, p := made(t, 1, triangle(), begin...)
		rows(t, s, p, 3)
	}
}

// someAct is any act, most of them good, of few names and numbers.
func someAct(r *rand.Rand, p *plain) api.Act {
	pick := func(l ...string) string { return l[r.Intn(len(l))] }
	name := func() string { return pick("q", "q", "r", "r", "p", "q1", "none") }
	ex := func() string { return pick("x", "x", "y", "d", "none") }
	pattern := func() string { return pick("", "", "#", "a.*", "a", "a.b", "*.#", "..") }
	tag := func(q string) uint64 {
		if l := p.line(q); l != nil && len(l.items) > 0 && r.Intn(4) > 0 {
			return l.items[r.Intn(len(l.items))].item.Tag
		}
		return uint64(r.Intn(4))
	}
	switch kind := r.Intn(22); kind {
	case 0:
		return queue(name(), 1+r.Intn(3))
	case 1:
		if r.Intn(3) == 0 {
			return noQueue(name())
		}
		return queue(name(), 3)
	case 2:
		x := exchange(ex(), 1+r.Intn(3))
		x.Exchange.Federated = r.Intn(3) > 0
		return x
	case 3:
		if r.Intn(4) == 0 {
			return noExchange(ex())
		}
		return exchange("x", api.Topic)
	case 4, 5:
		return binding(ex(), name(), pattern())
	case 6:
		return unbinding(ex(), name(), pattern())
	case 7, 8, 9:
		return enter(message(p.site, p.seq+uint64(1+r.Intn(8)/7), r.Intn(12)/11, ex(), pick("", "a", "a.b", "c")))
	case 10, 11, 12:
		origin := 1 + r.Intn(p.world.Sites+1)
		hop := far(p.world, origin, p.site) + r.Intn(10)/9
		return enter(message(origin, uint64(1+r.Intn(30)), hop, ex(), pick("", "a", "a.b", "c")))
	case 13, 14:
		return give(name())
	case 15, 16:
		q := name()
		return ack(q, tag(q))
	case 17:
		q := name()
		return back(q, tag(q))
	case 18, 19:
		return sent(1+r.Intn(p.world.Sites+1), 1+r.Intn(4))
	case 20:
		if r.Intn(3) == 0 {
			return boot()
		}
	}
	a := give(name())
	a.Kind = r.Intn(15) - 1
	return a
}

// someWorld is any topology, and a site of it.
func someWorld(r *rand.Rand) (api.Topology, int) {
	w := api.Topology{Sites: 1 + r.Intn(8), Hops: r.Intn(5)}
	for from := 1; from <= w.Sites; from++ {
		for to := 1; to <= w.Sites; to++ {
			if from != to && r.Intn(2) == 0 {
				w.Edges = append(w.Edges, api.Edge{From: from, To: to})
			}
		}
	}
	return w, 1 + r.Intn(w.Sites)
}

// walk applies n acts, and puts a copy, or what From reads, in the state's place from time to time.
func walk(t *testing.T, r *rand.Rand, s *State, p *plain, n int, each func(s *State, p *plain)) {
	t.Helper()
	for range n {
		do(t, "a long row", s, p, someAct(r, p))
		switch r.Intn(20) {
		case 0:
			s = s.Copy()
		case 1:
			again, err := From(p.site, p.world, s.Parts())
			if err != api.OK {
				t.Fatalf("From: %v of %+v", err, s.Parts())
			}
			s = again
		case 2, 3:
			wantPlain(t, "a long row", s, p)
		}
		each(s, p)
	}
	wantPlain(t, "a long row", s, p)
}

func TestLongRows(t *testing.T) {
	r := rand.New(rand.NewSource(14))
	met := map[api.Errno]int{}
	for range 150 {
		w, site := someWorld(r)
		s, p := made(t, site, w)
		walk(t, r, s, p, 400, func(s *State, p *plain) {
			_, err := s.Copy().Apply(someAct(r, p))
			met[err]++
		})
	}
	for _, err := range []api.Errno{api.OK, api.ErrInput, api.ErrMissing, api.ErrTaken, api.ErrSpace, api.ErrStale, api.ErrKind} {
		if met[err] < 50 {
			t.Errorf("the rows met %v only %d times", err, met[err])
		}
	}
}

func TestLongRowsNearTheEnds(t *testing.T) {
	r := rand.New(rand.NewSource(41))
	for range 40 {
		parts := Parts{
			Seq:       top - 20,
			Boots:     top - 1000,
			Exchanges: []api.Exchange{{Name: "x", Kind: api.Fanout, Federated: true}},
			Bindings:  []api.Binding{{Exchange: "x", Queue: "q"}},
			Queues:    []QueuePart{{Name: "q", Most: 3, Next: top - 9}},
			Seen:      []SeenPart{{Origin: 1, Ranges: []api.Range{{Lo: 1, Hi: top - 20}}}},
			Links:     []LinkPart{{To: 2, Messages: many(197)}, {To: 3, Messages: many(190)}},
		}
		s, p := read(t, 1, triangle(), parts)
		walk(t, r, s, p, 150, func(*State, *plain) {})
	}
}

func TestAnIdEntersOnce(t *testing.T) {
	r := rand.New(rand.NewSource(4))
	for range 60 {
		w, site := someWorld(r)
		s, p := made(t, site, w)
		was := map[api.Ident]int{}
		for range 300 {
			a := someAct(r, p)
			had := s.Has(a.Message.Ident)
			err := do(t, "once", s, p, a)
			if a.Kind != api.ActEnter || err != api.OK {
				if a.Kind == api.ActEnter && s.Has(a.Message.Ident) != had {
					t.Fatalf("%+v was refused, and seen", a)
				}
				continue
			}
			id := a.Message.Ident
			if was[id]++; was[id] > 1 || had || !s.Has(id) {
				t.Fatalf("%v entered %d times", id, was[id])
			}
			wantOnce(t, s, id)
			// At once, behind a failure, and in a copy.
			again, _ := From(site, w, s.Parts())
			for _, other := range []*State{s.Copy(), again} {
				for hop := range 9 {
					m := a.Message
					m.Hop = hop
					if _, err := other.Apply(enter(m)); err != api.ErrTaken && err != api.ErrStale {
						t.Fatalf("%v again: %v", m, err)
					}
				}
			}
		}
	}
}

// wantOnce: an id is in a queue, and waits for a link, once at most.
func wantOnce(t *testing.T, s *State, id api.Ident) {
	t.Helper()
	parts := s.Parts()
	for _, q := range parts.Queues {
		n := 0
		for _, item := range slices.Concat(q.Ready, q.Out) {
			if item.Message.Ident == id {
				n++
			}
		}
		if n > 1 {
			t.Fatalf("%v is in %s %d times", id, q.Name, n)
		}
	}
	for _, l := range parts.Links {
		n := 0
		for _, m := range l.Messages {
			if m.Ident == id {
				n++
			}
		}
		if n > 1 {
			t.Fatalf("%v waits for %d %d times", id, l.To, n)
		}
	}
}

func TestTheSameActsMakeTheSameState(t *testing.T) {
	r := rand.New(rand.NewSource(5))
	for range 20 {
		w, site := someWorld(r)
		s, p := made(t, site, w)
		var acts []api.Act
		var told []string
		for range 300 {
			a := someAct(r, p)
			p.apply(a)
			names, err := s.Apply(a)
			acts, told = append(acts, a), append(told, fmt.Sprint(names, err))
		}
		// The edges may stand in any order.
		slices.Reverse(w.Edges)
		other := New(site, w)
		for i, a := range acts {
			names, err := other.Apply(a)
			if got := fmt.Sprint(names, err); got != told[i] {
				t.Fatalf("%+v: %s, and %s", a, told[i], got)
			}
		}
		wantParts(t, "the same acts", other, s.Parts())
	}
}

// meddled is parts with something changed.
func meddled(r *rand.Rand, p Parts) Parts {
	some := []meddling{
		{"swap", swappedAt(r, exchangesOf)}, {"swap", swappedAt(r, bindingsOf)}, {"swap", swappedAt(r, queuesOf)}, {"swap", swappedAt(r, seenOf)}, {"swap", swappedAt(r, linksOf)},
		{"cut", cutAt(r, exchangesOf)}, {"cut", cutAt(r, bindingsOf)}, {"cut", cutAt(r, queuesOf)}, {"cut", cutAt(r, seenOf)}, {"cut", cutAt(r, linksOf)},
		{"double", doubledAt(r, exchangesOf)}, {"double", doubledAt(r, bindingsOf)}, {"double", doubledAt(r, queuesOf)}, {"double", doubledAt(r, seenOf)}, {"double", doubledAt(r, linksOf)},
		{"exchange", func(p *Parts) {
			if n := len(p.Exchanges); n > 0 {
				x := &p.Exchanges[r.Intn(n)]
				x.Kind, x.Name = r.Intn(5), x.Name+[]string{"", "", "2", "."}[r.Intn(4)]
			}
		}},
		{"binding", func(p *Parts) {
			if n := len(p.Bindings); n > 0 {
				b := &p.Bindings[r.Intn(n)]
				b.Queue, b.Pattern = b.Queue+[]string{"", "", "-", "."}[r.Intn(4)], b.Pattern+[]string{"", "", "a", "#"}[r.Intn(4)]
			}
		}},
		{"queue", func(p *Parts) {
			if n := len(p.Queues); n > 0 {
				q := &p.Queues[r.Intn(n)]
				q.Name, q.Most, q.Next = q.Name+[]string{"", "", "-", "."}[r.Intn(4)], q.Most+r.Intn(3)-1, q.Next+uint64(r.Intn(3))-1
			}
		}},
		{"items", func(p *Parts) {
			if n := len(p.Queues); n > 0 {
				q := &p.Queues[r.Intn(n)]
				q.Ready, q.Out = q.Out, q.Ready
				for i := range q.Ready {
					q.Ready[i].Tag += uint64(r.Intn(9) / 8)
				}
			}
		}},
		{"seen", func(p *Parts) {
			if n := len(p.Seen); n > 0 {
				s := &p.Seen[r.Intn(n)]
				s.Origin += r.Intn(3) - 1
				at := &s.Ranges[r.Intn(len(s.Ranges))]
				at.Lo, at.Hi = at.Lo+uint64(r.Intn(3))-1, at.Hi+uint64(r.Intn(3))-1
			}
		}},
		{"link", func(p *Parts) {
			if n := len(p.Links); n > 0 {
				l := &p.Links[r.Intn(n)]
				l.To += r.Intn(3) - 1
				l.Messages[0].Hop += r.Intn(3) - 1
				l.Messages = l.Messages[:len(l.Messages)-r.Intn(5)/4]
			}
		}},
		{"new link", func(p *Parts) {
			p.Links = append(p.Links, LinkPart{To: r.Intn(10), Messages: many(r.Intn(3) * 100)})
		}},
	}
	for range 1 + r.Intn(2) {
		some[r.Intn(len(some))].do(&p)
	}
	return p
}

func swappedAt[T any](r *rand.Rand, list func(p *Parts) *[]T) func(p *Parts) {
	return func(p *Parts) {
		if l := *list(p); len(l) > 1 {
			i := r.Intn(len(l) - 1)
			l[i], l[i+1] = l[i+1], l[i]
		}
	}
}

func cutAt[T any](r *rand.Rand, list func(p *Parts) *[]T) func(p *Parts) {
	return func(p *Parts) {
		if l := list(p); len(*l) > 0 {
			i := r.Intn(len(*l))
			*l = slices.Delete(*l, i, i+1)
		}
	}
}

func doubledAt[T any](r *rand.Rand, list func(p *Parts) *[]T) func(p *Parts) {
	return func(p *Parts) {
		if l := list(p); len(*l) > 0 {
			*l = slices.Insert(*l, r.Intn(len(*l)+1), (*l)[r.Intn(len(*l))])
		}
	}
}

func TestFromOfMeddledParts(t *testing.T) {
	r := rand.New(rand.NewSource(6))
	good, bad := 0, 0
	for range 60 {
		w, site := someWorld(r)
		s, p := made(t, site, w)
		walk(t, r, s, p, 200, func(s *State, p *plain) {
			if r.Intn(4) > 0 {
				return
			}
			parts := meddled(r, s.Parts())
			got, err := From(site, w, parts)
			if right(site, w, parts) {
				good++
				if err != api.OK {
					t.Fatalf("From(%d, %v, %+v): %v", site, w, parts, err)
				}
				read := plainOf(site, w, parts)
				wantPlain(t, "meddled", got, read)
				for range 5 {
					do(t, "meddled", got, read, someAct(r, read))
				}
				wantPlain(t, "meddled", got, read)
				return
			}
			bad++
			if err != api.ErrDamage || got != nil {
				t.Fatalf("From(%d, %v, %+v): %v, want damage", site, w, parts, err)
			}
		})
	}
	if good < 200 || bad < 200 {
		t.Errorf("%d were right, %d wrong", good, bad)
	}
}

// The sites of a world, each with its state: what the promises are for.

func TestEachIdComesToAllSitesWithinTheHops(t *testing.T) {
	r := rand.New(rand.NewSource(7))
	worlds(func(w api.Topology) { carry(t, r, w) })
	for range 60 {
		w, _ := someWorld(r)
		carry(t, r, w)
	}
}

// carry publishes at each site of a world, and brings what waits along the edges, in any order and often twice, until nothing waits.
func carry(t *testing.T, r *rand.Rand, w api.Topology) {
	t.Helper()
	sites := map[int]*State{}
	for site := 1; site <= w.Sites; site++ {
		sites[site], _ = made(t, site, w, exchange("x", api.Fanout), queue("q", 1000), binding("x", "q", ""), comes(site, 1, 0), comes(site, 2, 0))
	}
	for waits := true; waits; {
		waits = false
		for _, i := range r.Perm(len(w.Edges)) {
			e := w.Edges[i]
			l := sites[e.From].Link(e.To)
			if len(l) == 0 {
				continue
			}
			waits = true
			n := 1 + r.Intn(len(l))
			for _, m := range append(slices.Clone(l[:n]), l[:n]...) {
				// What came a longer way is refused, what came already too.
				if _, err := sites[e.To].Apply(enter(m)); err != api.OK && err != api.ErrTaken && err != api.ErrInput {
					t.Fatalf("%v: %+v along %v: %v", w, m, e, err)
				}
			}
			wantDone(t, "sent", sites[e.From], sent(e.To, n))
		}
	}
	for site, s := range sites {
		q, _ := s.Queue("q")
		for origin := 1; origin <= w.Sites; origin++ {
			for seq := range uint64(4) {
				id := api.Ident{Origin: origin, Seq: seq}
				want := seq > 0 && seq < 3 && far(w, origin, site) <= w.Hops
				n := 0
				for _, item := range q.Ready {
					if item.Message.Ident == id {
						n++
					}
				}
				if s.Has(id) != want || n > 1 || want != (n == 1) {
					t.Fatalf("%v: %v at %d: seen %v, %d times in its queue; want %v", w, id, site, s.Has(id), n, want)
				}
			}
		}
	}
}

// R3

// scribble changes a list, and the room behind it.
func scribble[T any](l []T, with T) {
	l = l[:cap(l)]
	for i := range l {
		l[i] = with
	}
}

func otherItem() api.Item { return api.Item{Tag: 99, Message: message(8, 8, 8, "other", "")} }

// scribbleQueue, scribbleParts: all lists of theirs, from the inside out.
func scribbleQueue(q QueuePart) {
	scribble(q.Ready, otherItem())
	scribble(q.Out, otherItem())
}

func scribbleParts(p Parts) {
	for _, q := range p.Queues {
		scribbleQueue(q)
	}
	for _, s := range p.Seen {
		scribble(s.Ranges, api.Range{Lo: 70, Hi: 80})
	}
	for _, l := range p.Links {
		scribble(l.Messages, otherItem().Message)
	}
	scribble(p.Exchanges, api.Exchange{Name: "other"})
	scribble(p.Bindings, api.Binding{Queue: "other"})
	scribble(p.Queues, QueuePart{Name: "other"})
	scribble(p.Seen, SeenPart{Origin: 8})
	scribble(p.Links, LinkPart{To: 8})
}

// mixed is a state with more in it than busy has, so that lists have room behind them.
func mixed(t *testing.T) (*State, *plain) {
	t.Helper()
	s, p := busy(t)
	all(t, s, p, ack("q", 1), ack("r", 1), comes(2, 9, 1), enter(message(3, 1, 1, "none", "")), queue("more", 5), binding("d", "more", "k"),
		enter(message(1, 3, 0, "d", "k")), give("more"), sent(2, 1))
	return s, p
}

func TestAnswersAreNewMemory(t *testing.T) {
	s, p := mixed(t)
	for range 2 {
		scribbleParts(s.Parts())
		wantPlain(t, "behind Parts", s, p)
		for _, l := range p.lines {
			q, _ := s.Queue(l.name)
			scribbleQueue(q)
		}
		wantPlain(t, "behind Queue", s, p)
		for _, to := range everySite() {
			scribble(s.Link(to), otherItem().Message)
		}
		wantPlain(t, "behind Link", s, p)
	}
	published := enter(message(1, p.seq+1, 0, "d", "k"))
	p.apply(published)
	names, err := s.Apply(published)
	if err != api.OK || !slices.Equal(names, []string{"more", "r"}) {
		t.Fatalf("Apply: %v %v", names, err)
	}
	scribble(names, "other")
	wantPlain(t, "behind Apply", s, p)
}

func TestNoTwoListsOfAnAnswerShareMemory(t *testing.T) {
	s, p := mixed(t)
	want := p.parts()
	for i := range want.Queues {
		got := s.Parts()
		scribble(got.Queues[i].Ready, otherItem())
		got.Queues[i].Ready = want.Queues[i].Ready
		if !sameParts(got, want) {
			t.Errorf("Ready of %d shares memory", i)
		}
		got = s.Parts()
		scribble(got.Queues[i].Out, otherItem())
		got.Queues[i].Out = want.Queues[i].Out
		if !sameParts(got, want) {
			t.Errorf("Out of %d shares memory", i)
		}
	}
	for i := range want.Seen {
		got := s.Parts()
		scribble(got.Seen[i].Ranges, api.Range{Lo: 70, Hi: 80})
		got.Seen[i].Ranges = want.Seen[i].Ranges
		if !sameParts(got, want) {
			t.Errorf("Ranges of %d share memory", i)
		}
	}
	for i := range want.Links {
		got := s.Parts()
		scribble(got.Links[i].Messages, otherItem().Message)
		got.Links[i].Messages = want.Links[i].Messages
		if !sameParts(got, want) {
			t.Errorf("Messages of %d share memory", i)
		}
	}
}

func TestAnswersStayAsTheyWere(t *testing.T) {
	s, p := mixed(t)
	parts, want := s.Parts(), p.parts()
	link, wantLink := s.Link(3), p.link(3)
	q, _ := s.Queue("p")
	wantQ := p.part(p.line("p"))
	for _, a := range append(oneOfEach(), give("p"), ack("p", 1), sent(3, 2), comes(1, 4, 0), noQueue("p"), noExchange("x"), boot()) {
		s.Apply(a)
	}
	if !sameParts(parts, want) || !slices.Equal(link, wantLink) || !sameQueue(q, wantQ) {
		t.Error("answers changed with the state")
	}
}

// roomy is a list with the same in the room behind its end.
func roomy[T any](l []T) []T {
	return append(slices.Clone(l), l...)[:len(l)]
}

// roomyParts are rich parts, each list with room behind it.
func roomyParts() Parts {
	p := rich()
	for i := range p.Queues {
		p.Queues[i].Ready, p.Queues[i].Out = roomy(p.Queues[i].Ready), roomy(p.Queues[i].Out)
	}
	for i := range p.Seen {
		p.Seen[i].Ranges = roomy(p.Seen[i].Ranges)
	}
	for i := range p.Links {
		p.Links[i].Messages = roomy(p.Links[i].Messages)
	}
	p.Exchanges, p.Bindings, p.Queues, p.Seen, p.Links = roomy(p.Exchanges), roomy(p.Bindings), roomy(p.Queues), roomy(p.Seen), roomy(p.Links)
	return p
}

// behind are parts whose lists are those in the room.
func behind(p Parts) Parts {
	p.Exchanges, p.Bindings, p.Queues, p.Seen, p.Links = room(p.Exchanges), room(p.Bindings), room(p.Queues), room(p.Seen), room(p.Links)
	for i, q := range p.Queues {
		p.Queues[i].Ready, p.Queues[i].Out = room(q.Ready), room(q.Out)
	}
	for i, s := range p.Seen {
		p.Seen[i].Ranges = room(s.Ranges)
	}
	for i, l := range p.Links {
		p.Links[i].Messages = room(l.Messages)
	}
	return p
}

func room[T any](l []T) []T { return slices.Clone(l[len(l) : 2*len(l)]) }

func TestFromChangesAndKeepsNothingThatIsGiven(t *testing.T) {
	parts := roomyParts()
	s, err := From(2, triangle(), parts)
	if err != api.OK {
		t.Fatal(err)
	}
	p := plainOf(2, triangle(), rich())
	acts := []api.Act{ack("p", 3), give("p"), sent(1, 1), noQueue("q"), enter(message(1, 4, 1, "b", "")), sent(3, 2), noExchange("a"), boot(), enter(message(2, 5, 0, "b", ""))}
	for _, a := range acts {
		do(t, "behind From", s, p, a)
	}
	wantPlain(t, "behind From", s, p)
	if !sameParts(parts, rich()) || !sameParts(behind(parts), rich()) {
		t.Error("what From was given was changed")
	}
	scribbleParts(parts)
	wantPlain(t, "behind a change of what From was given", s, p)
}

func TestFromRefusedChangesNothingThatIsGiven(t *testing.T) {
	for _, m := range wrongs() {
		given, want := rich(), rich()
		m.do(&given)
		m.do(&want)
		From(2, triangle(), given)
		if !sameParts(given, want) {
			t.Errorf("%s: changed", m.what)
		}
	}
	w, want := triangle(), triangle()
	New(2, w)
	From(2, w, rich())
	if !slices.Equal(w.Edges, want.Edges) {
		t.Error("the edges were changed")
	}
}

// P1: no call panics, and each ends, at arguments of any size.

func TestGreatArguments(t *testing.T) {
	huge := strings.Repeat("a", 1<<22)
	s, p := busy(t)
	for _, a := range []api.Act{queue(huge, 1), noQueue(huge), exchange(huge, 1), binding("x", "q", huge), enter(message(1, 3, 0, "x", huge)), give(huge)} {
		wantRefused(t, "huge", s, a, api.ErrInput)
	}
	wantPlain(t, "huge", s, p)
	for what, parts := range map[string]Parts{
		"exchanges":         {Exchanges: make([]api.Exchange, 1<<20)},
		"the same exchange": {Exchanges: slices.Repeat([]api.Exchange{{Name: "x", Kind: api.Fanout}}, 1<<20)},
		"bindings":          {Bindings: make([]api.Binding, 1<<20)},
		"queues":            {Queues: make([]QueuePart, 1<<20)},
		"the same queue":    {Queues: slices.Repeat([]QueuePart{{Name: "q", Most: 1, Next: 1}}, 1<<20)},
		"seen":              {Seen: make([]SeenPart, 1<<20)},
		"the same origin":   {Seen: slices.Repeat([]SeenPart{{Origin: 1, Ranges: []api.Range{{Lo: 1, Hi: 1}}}}, 1<<18)},
		"links":             {Links: make([]LinkPart, 1<<20)},
		"the same link":     {Links: slices.Repeat([]LinkPart{{To: 2, Messages: many(1)}}, 1<<18)},
		"messages":          {Links: []LinkPart{{To: 2, Messages: make([]api.Message, 1<<20)}}},
		"items":             {Queues: []QueuePart{{Name: "q", Most: 1000, Next: top, Ready: make([]api.Item, 1<<20), Out: make([]api.Item, 1<<20)}}},
	} {
		if got, err := From(1, pair(), parts); got != nil || err != api.ErrDamage {
			t.Errorf("many %s: %v", what, err)
		}
	}
	many := make([]api.Range, 1<<18)
	for i := range many {
		many[i] = api.Range{Lo: uint64(3*i + 1), Hi: uint64(3*i + 2)}
	}
	s, err := From(1, pair(), Parts{Seen: []SeenPart{{Origin: 2, Ranges: many}}})
	if err != api.OK {
		t.Fatal(err)
	}
	if got := s.Copy().Parts().Seen; len(got) != 1 || !slices.Equal(got[0].Ranges, many) {
		t.Error("many ranges are others")
	}
	wantRefused(t, "many ranges", s, comes(2, 1, 1), api.ErrTaken)
	wantDone(t, "many ranges", s, comes(2, 3, 1))
	if n := len(s.Parts().Seen[0].Ranges); n != 1<<18-1 {
		t.Errorf("%d ranges", n)
	}
}
