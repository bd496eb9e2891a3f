package still

import (
	"bytes"
	"fmt"
	"math"
	"math/rand"
	"slices"
	"strings"
	"sync"
	"testing"

	"staith/api"
	"staith/state"
)

func queue(name string, n int) api.Act { return api.Act{Kind: api.ActQueue, Name: name, N: n} }

func exchange(name string, kind int, federated bool) api.Act {
	return api.Act{Kind: api.ActExchange, Exchange: api.Exchange{Name: name, Kind: kind, Federated: federated}}
}

func binding(x, q, pattern string) api.Act {
	return api.Act{Kind: api.ActBind, Binding: api.Binding{Exchange: x, Queue: q, Pattern: pattern}}
}

func message(origin int, seq uint64, hop int, x, key, body string) api.Message {
	return api.Message{Ident: api.Ident{Origin: origin, Seq: seq}, Hop: hop, Exchange: x, Key: key, Body: body}
}

func enter(m api.Message) api.Act { return api.Act{Kind: api.ActEnter, Message: m} }

func give(name string) api.Act { return api.Act{Kind: api.ActGive, Name: name} }

func ack(name string, tag uint64) api.Act { return api.Act{Kind: api.ActAck, Name: name, Tag: tag} }

func back(name string, tag uint64) api.Act { return api.Act{Kind: api.ActBack, Name: name, Tag: tag} }

func sent(to, n int) api.Act { return api.Act{Kind: api.ActSent, To: to, N: n} }

func boot() api.Act { return api.Act{Kind: api.ActBoot} }

// world is a topology; pairs are From and To.
func world(sites, hops int, pairs ...int) api.Topology {
	t := api.Topology{Sites: sites, Hops: hops}
	for i := 0; i < len(pairs); i += 2 {
		t.Edges = append(t.Edges, api.Edge{From: pairs[i], To: pairs[i+1]})
	}
	return t
}

// triangle is three sites with all edges.
func triangle() api.Topology { return world(3, 2, 1, 2, 1, 3, 2, 1, 2, 3, 3, 1, 3, 2) }

// behindActs is a state behind acts of which none has an error.
func behindActs(t *testing.T, site int, w api.Topology, acts ...api.Act) *state.State {
	t.Helper()
	s := state.New(site, w)
	if s == nil {
		t.Fatalf("no state of %d, %v", site, w)
	}
	for _, a := range acts {
		if _, err := s.Apply(a); err != api.OK {
			t.Fatalf("Apply(%+v): %v", a, err)
		}
	}
	return s
}

// withParts is the state of parts that are right.
func withParts(t *testing.T, site int, w api.Topology, p state.Parts) *state.State {
	t.Helper()
	s, err := state.From(site, w, p)
	if err != api.OK {
		t.Fatalf("From(%d, %v, %+v): %v", site, w, p, err)
	}
	return s
}

// rich are parts with several of everything, of site 2 of the triangle.
func rich() state.Parts {
	item := func(tag uint64, again bool) api.Item {
		return api.Item{Tag: tag, Message: message(1, tag, 1, "x", "k.l", fmt.Sprint("body ", tag)), Again: again}
	}
	return state.Parts{
		Seq:   4,
		Boots: 2,
		Exchanges: []api.Exchange{
			{Name: "a", Kind: api.Direct}, {Name: "b", Kind: api.Fanout, Federated: true}, {Name: "c", Kind: api.Topic},
		},
		Bindings: []api.Binding{
			{Exchange: "a", Queue: "p", Pattern: "k"}, {Exchange: "a", Queue: "q"}, {Exchange: "a", Queue: "q", Pattern: "k"},
			{Exchange: "b", Queue: "q"}, {Exchange: "c", Queue: "p", Pattern: "#"}, {Exchange: "c", Queue: "p", Pattern: "a.*"},
		},
		Queues: []state.QueuePart{
			{Name: "p", Most: 4, Next: 9, Ready: []api.Item{item(2, false), item(5, true)}, Out: []api.Item{item(3, false), item(8, true)}},
			{Name: "q", Most: 1, Next: 1},
			{Name: "r", Most: 1000, Next: top, Ready: []api.Item{item(top-1, false)}},
		},
		Seen: []state.SeenPart{
			{Origin: 1, Ranges: []api.Range{{Lo: 1, Hi: 3}, {Lo: 5, Hi: 9}}},
			{Origin: 2, Ranges: []api.Range{{Lo: 1, Hi: 4}}},
			{Origin: 3, Ranges: []api.Range{{Lo: 7, Hi: top}}},
		},
		Links: []state.LinkPart{
			{To: 1, Messages: []api.Message{message(2, 1, 1, "b", "", "one"), message(3, 9, 2, "x", "a.b", "")}},
			{To: 3, Messages: []api.Message{message(2, 1, 1, "b", "", "one")}},
		},
	}
}

// meddling is a change of rich parts.
type meddling struct {
	what string
	do   func(p *state.Parts)
}

// wantUndone reads a state's Bytes, for the site and topology that it was of; the state that was read.
func wantUndone(t *testing.T, what string, s *state.State, site int, w api.Topology) *state.State {
	t.Helper()
	b := Bytes(s)
	again, err := Read(b, site, w)
	if again == nil || err != api.OK {
		t.Fatalf("%s: Read: %v", what, err)
	}
	wantParts(t, what, again, s.Parts())
	if !bytes.Equal(Bytes(again), b) || !Same(s, again) || !Same(again, s) {
		t.Fatalf("%s: what was read has other bytes", what)
	}
	return again
}

func wantBytes(t *testing.T, what string, got, want []byte) {
	t.Helper()
	if !bytes.Equal(got, want) {
		t.Fatalf("%s: bytes\n%v\nwant\n%v", what, got, want)
	}
}

func wantDamage(t *testing.T, what string, b []byte, site int, w api.Topology) {
	t.Helper()
	if s, err := Read(b, site, w); s != nil || err != api.ErrDamage {
		t.Fatalf("%s: Read: %v %v, want damage", what, s, err)
	}
}

// wantAsPlain holds Read of any bytes, for site 2 of the triangle, against the plain reading and state's From; was there a state?
func wantAsPlain(t *testing.T, what string, b []byte) bool {
	t.Helper()
	s, err := Read(b, 2, triangle())
	p, ok := plainRead(b)
	if ok {
		_, wrong := state.From(2, triangle(), p)
		ok = wrong == api.OK
	}
	if !ok {
		if s != nil || err != api.ErrDamage {
			t.Fatalf("%s: Read(%v): %v, want damage", what, b, err)
		}
		return false
	}
	if s == nil || err != api.OK {
		t.Fatalf("%s: Read(%v): %v", what, b, err)
	}
	wantParts(t, what, s, p)
	wantBytes(t, what, Bytes(s), b)
	return true
}

// P15.1

func TestExample(t *testing.T) {
	for _, w := range []api.Topology{world(1, 0), world(2, 2, 1, 2), triangle(), world(8, 8)} {
		for site := 1; site <= w.Sites; site++ {
			s := state.New(site, w)
			wantBytes(t, "a new state", Bytes(s), make([]byte, 36))
			wantUndone(t, "a new state", s, site, w)
		}
	}
}

func TestBytesSignBySign(t *testing.T) {
	s := behindActs(t, 1, world(3, 2, 1, 2, 1, 3),
		queue("q", 300), queue("e", 1), exchange("x", api.Topic, true), exchange("d", api.Direct, false),
		binding("x", "q", "a.*"), binding("d", "e", ""),
		enter(message(1, 1, 0, "x", "a.b", "hi")), enter(message(1, 2, 0, "x", "a.c", "")), enter(message(1, 3, 0, "x", "z", "")),
		give("q"), back("q", 1), give("q"), sent(2, 2), sent(3, 3), boot(), give("q"), boot(), give("q"),
	)
	want := []byte{
		0, 0, 0, 0, 0, 0, 0, 3, // Seq
		0, 0, 0, 0, 0, 0, 0, 2, // Boots
		0, 0, 0, 2, // exchanges
		0, 1, 'd', 1, 0,
		0, 1, 'x', 3, 1,
		0, 0, 0, 2, // bindings
		0, 1, 'd', 0, 1, 'e', 0, 0,
		0, 1, 'x', 0, 1, 'q', 0, 3, 'a', '.', '*',
		0, 0, 0, 2, // queues
		0, 1, 'e', 0, 1, 0, 0, 0, 0, 0, 0, 0, 1, 0, 0, 0, 0, 0, 0, 0, 0,
		0, 1, 'q', 1, 44, 0, 0, 0, 0, 0, 0, 0, 3,
		0, 0, 0, 1, // ready
		0, 0, 0, 0, 0, 0, 0, 2, 1, 0, 0, 0, 0, 0, 0, 0, 2, 0, 0, 1, 'x', 0, 3, 'a', '.', 'c', 0, 0, 0,
		0, 0, 0, 1, // out
		0, 0, 0, 0, 0, 0, 0, 1, 1, 0, 0, 0, 0, 0, 0, 0, 1, 0, 0, 1, 'x', 0, 3, 'a', '.', 'b', 0, 2, 'h', 'i', 1,
		0, 0, 0, 1, // seen
		1, 0, 0, 0, 1, 0, 0, 0, 0, 0, 0, 0, 1, 0, 0, 0, 0, 0, 0, 0, 3,
		0, 0, 0, 1, // links
		2, 0, 0, 0, 1, 1, 0, 0, 0, 0, 0, 0, 0, 3, 1, 0, 1, 'x', 0, 1, 'z', 0, 0,
	}
	wantBytes(t, "sign by sign", Bytes(s), want)
	wantUndone(t, "sign by sign", s, 1, world(3, 2, 1, 2, 1, 3))
}

func TestBytesOfRichParts(t *testing.T) {
	s := withParts(t, 2, triangle(), rich())
	wantBytes(t, "rich", Bytes(s), plainBytes(rich()))
	wantUndone(t, "rich", s, 2, triangle())
}

func TestBytesOfAStateThatNoCallMade(t *testing.T) {
	var none state.State
	for _, s := range []*state.State{nil, {}, &none} {
		if b := Bytes(s); len(b) != 0 {
			t.Errorf("Bytes: %v", b)
		}
		if s != nil && s.Copy() != nil {
			t.Error("Bytes made the state")
		}
	}
}

func TestBytesChangeNothing(t *testing.T) {
	s := withParts(t, 2, triangle(), rich())
	for range 3 {
		wantBytes(t, "again", Bytes(s), plainBytes(rich()))
		wantParts(t, "behind Bytes", s, rich())
	}
	fresh := state.New(1, triangle())
	Bytes(fresh)
	wantParts(t, "a new one behind Bytes", fresh, state.Parts{})
}

// Maps have no order: were theirs told, bytes would differ from time to time, and from one order of making to another.
func TestBytesAreAlwaysTheSame(t *testing.T) {
	r := rand.New(rand.NewSource(15))
	var first []byte
	for range 30 {
		s := state.New(1, triangle())
		for _, makes := range [][]api.Act{
			{queue("a", 2), queue("b", 2), queue("c", 2), queue("d", 2), queue("e", 2), queue("f", 2)},
			{exchange("u", 1, true), exchange("v", 2, true), exchange("w", 3, false), exchange("x", 3, true), exchange("y", 1, true)},
			{binding("u", "a", ""), binding("v", "b", ""), binding("w", "c", "#"), binding("w", "c", "*"), binding("x", "f", "#"), binding("y", "e", "k")},
			{enter(message(2, 5, 1, "x", "k", "m")), enter(message(3, 1, 1, "y", "k", "m"))},
		} {
			r.Shuffle(len(makes), func(i, k int) { makes[i], makes[k] = makes[k], makes[i] })
			for _, a := range makes {
				if _, err := s.Apply(a); err != api.OK {
					t.Fatalf("Apply(%+v): %v", a, err)
				}
			}
		}
		// What was given, and when, must not be seen either.
		for _, a := range []api.Act{give("f"), give("e"), sent(2, 1), sent(3, 1)} {
			if _, err := s.Apply(a); err != api.OK {
				t.Fatalf("Apply(%+v): %v", a, err)
			}
		}
		if first == nil {
			first = Bytes(s)
		}
		wantBytes(t, "another order", Bytes(s), first)
		wantBytes(t, "a copy", Bytes(s.Copy()), first)
	}
}

// P15.2, Read

// odd are meddlings of which no acts lead to the state, but state's From takes them.
func odd() []meddling {
	return []meddling{
		{"nothing", func(*state.Parts) {}},
		{"any numbers", func(p *state.Parts) { p.Seq, p.Boots = top, top }},
		{"other numbers", func(p *state.Parts) { p.Seq, p.Boots = 1<<63, 1<<32+1 }},
		{"no numbers", func(p *state.Parts) { p.Seq, p.Boots = 0, 0 }},
		{"no queues", func(p *state.Parts) { p.Queues = nil }},
		{"nothing was seen", func(p *state.Parts) { p.Seen = nil }},
		{"no links", func(p *state.Parts) { p.Links = nil }},
		{"no bindings", func(p *state.Parts) { p.Bindings = nil }},
		{"no exchanges and bindings", func(p *state.Parts) { p.Exchanges, p.Bindings = nil, nil }},
		{"only numbers", func(p *state.Parts) { *p = state.Parts{Seq: 1, Boots: 2} }},
		{"origins that are no sites", func(p *state.Parts) { p.Seen[2].Origin = 8 }},
		{"all numbers were seen", func(p *state.Parts) { p.Seen[1].Ranges = []api.Range{{Lo: 1, Hi: top}} }},
		{"the last number was seen", func(p *state.Parts) { p.Seen[1].Ranges = []api.Range{{Lo: top, Hi: top}} }},
		{"a message in a queue twice", func(p *state.Parts) { p.Queues[0].Out[0].Message = p.Queues[0].Ready[0].Message }},
		{"ready and out the other way", func(p *state.Parts) { p.Queues[0].Ready, p.Queues[0].Out = p.Queues[0].Out, p.Queues[0].Ready }},
		{"all are out", func(p *state.Parts) { p.Queues[2].Ready, p.Queues[2].Out = nil, p.Queues[2].Ready }},
		{"messages of other hops", func(p *state.Parts) { p.Links[0].Messages[0].Hop, p.Links[0].Messages[1].Hop = 0, 8 }},
		{"messages of other origins", func(p *state.Parts) { p.Links[0].Messages[0].Ident.Origin = 8 }},
		{"messages in any order", func(p *state.Parts) { slices.Reverse(p.Links[0].Messages) }},
		{"a message that waits twice", func(p *state.Parts) { p.Links[0].Messages[1] = p.Links[0].Messages[0] }},
		{"a body of any bytes", func(p *state.Parts) { p.Links[0].Messages[1].Body = "\x00\xff\xc3\n" + strings.Repeat("é", 98) }},
		{"a link that is full", func(p *state.Parts) { p.Links[1].Messages = many(200) }},
		{"16 queues", func(p *state.Parts) { p.Queues = empties(16) }},
		{"a queue for the most", func(p *state.Parts) { p.Queues[1].Most = 1000 }},
		{"long names", func(p *state.Parts) {
			p.Exchanges[2].Name = strings.Repeat("c", 20)
			p.Queues[2].Name = strings.Repeat("r", 20)
			p.Bindings = []api.Binding{{Exchange: p.Exchanges[2].Name, Queue: p.Queues[2].Name, Pattern: strings.Repeat("w", 60)}}
		}},
		{"eight exchanges", func(p *state.Parts) { p.Exchanges = append(p.Exchanges, moreExchanges(5)...) }},
		{"32 bindings", func(p *state.Parts) { p.Bindings = append(p.Bindings, moreBindings(26)...) }},
	}
}

func many(n int) []api.Message {
	var l []api.Message
	for i := range n {
		l = append(l, message(2, uint64(i+1), 1, "x", "", fmt.Sprint(i)))
	}
	return l
}

func empties(n int) []state.QueuePart {
	var l []state.QueuePart
	for i := range n {
		l = append(l, state.QueuePart{Name: fmt.Sprint("q", 10+i), Most: 1, Next: 1})
	}
	return l
}

func moreExchanges(n int) []api.Exchange {
	var l []api.Exchange
	for i := range n {
		l = append(l, api.Exchange{Name: fmt.Sprint("x", i), Kind: api.Topic})
	}
	return l
}

func moreBindings(n int) []api.Binding {
	var l []api.Binding
	for i := range n {
		l = append(l, api.Binding{Exchange: "c", Queue: "z", Pattern: fmt.Sprint(10 + i)})
	}
	return l
}

func TestOddPartsThereAndBack(t *testing.T) {
	for _, m := range odd() {
		p := rich()
		m.do(&p)
		s := withParts(t, 2, triangle(), p)
		wantBytes(t, m.what, Bytes(s), plainBytes(p))
		wantUndone(t, m.what, s, 2, triangle())
	}
}

// state's From asks nothing of the messages in queues, so Read must not either: all that their bytes can tell comes back.
func TestItemsThatAreNoGoodMessages(t *testing.T) {
	for what, m := range map[string]api.Message{
		"nothing":                {},
		"no origin":              message(0, 1, 1, "x", "k", "b"),
		"an origin that is none": message(9, 1, 1, "x", "k", "b"),
		"the last origin":        message(255, 1, 1, "x", "k", "b"),
		"no number":              message(1, 0, 1, "x", "k", "b"),
		"too many hops":          message(1, top, 9, "x", "k", "b"),
		"the most hops":          message(1, top, 255, "x", "k", "b"),
		"no exchange":            message(1, 1, 1, "", "k", "b"),
		"an exchange of any":     message(1, 1, 1, "X Y\x00\xff", "k", "b"),
		"a key that is none":     message(1, 1, 1, "x", "..#", "b"),
		"a body of 201":          message(1, 1, 1, "x", "k", strings.Repeat("b", 201)),
		"texts of 65535":         message(1, 1, 1, strings.Repeat("x", 65535), strings.Repeat("k", 65535), strings.Repeat("b", 65535)),
	} {
		p := rich()
		p.Queues[0].Ready[1].Message = m
		p.Queues[0].Out[0].Message = m
		s := withParts(t, 2, triangle(), p)
		wantBytes(t, what, Bytes(s), plainBytes(p))
		wantUndone(t, what, s, 2, triangle())
		p = rich()
		p.Links[0].Messages[1] = m
		wantDamage(t, what+" waits for a link", plainBytes(p), 2, triangle())
	}
}

// Numbers and texts that are too wide are cut: what is read has the same bytes, and can have no more.
func TestItemsThatAreCut(t *testing.T) {
	long := strings.Repeat("a", 65535)
	for what, c := range map[string]struct{ is, cut api.Message }{
		"an origin of 257":       {message(257, 1, 1, "x", "k", "b"), message(1, 1, 1, "x", "k", "b")},
		"an origin below 0":      {message(-1, 1, 1, "x", "k", "b"), message(255, 1, 1, "x", "k", "b")},
		"the least hop":          {message(1, 1, math.MinInt, "x", "k", "b"), message(1, 1, 0, "x", "k", "b")},
		"the greatest hop":       {message(1, 1, math.MaxInt, "x", "k", "b"), message(1, 1, 255, "x", "k", "b")},
		"an exchange of 65536":   {message(1, 1, 1, long+"a", "k", "b"), message(1, 1, 1, long, "k", "b")},
		"a key of 65540":         {message(1, 1, 1, "x", long+"kkkkk", "b"), message(1, 1, 1, "x", long, "b")},
		"a body of 2 times that": {message(1, 1, 1, "x", "k", long+long), message(1, 1, 1, "x", "k", long)},
	} {
		p, cut := rich(), rich()
		p.Queues[0].Ready[1].Message, cut.Queues[0].Ready[1].Message = c.is, c.cut
		s := withParts(t, 2, triangle(), p)
		wantBytes(t, what, Bytes(s), plainBytes(cut))
		again, err := Read(Bytes(s), 2, triangle())
		if err != api.OK || !Same(s, again) {
			t.Fatalf("%s: %v", what, err)
		}
		wantParts(t, what, again, cut)
	}
}

// wrongs are meddlings with which no state is.
func wrongs() []meddling {
	return slices.Concat(wrongTables(), wrongQueues(), wrongNumbers())
}

func wrongTables() []meddling {
	return []meddling{
		{"exchanges in another order", func(p *state.Parts) { p.Exchanges[0], p.Exchanges[1] = p.Exchanges[1], p.Exchanges[0] }},
		{"an exchange twice", func(p *state.Parts) { p.Exchanges = slices.Insert(p.Exchanges, 1, p.Exchanges[0]) }},
		{"an exchange of kind 0", func(p *state.Parts) { p.Exchanges[0].Kind = 0 }},
		{"an exchange of kind 4", func(p *state.Parts) { p.Exchanges[0].Kind = 4 }},
		{"an exchange of kind 255", func(p *state.Parts) { p.Exchanges[0].Kind = 255 }},
		{"an exchange without a name", func(p *state.Parts) { p.Exchanges = slices.Insert(p.Exchanges, 0, api.Exchange{Kind: api.Topic}) }},
		{"an exchange with a name that is none", func(p *state.Parts) {
			p.Exchanges = slices.Insert(p.Exchanges, 0, api.Exchange{Name: "A", Kind: api.Topic})
		}},
		{"a name of 21", func(p *state.Parts) {
			p.Exchanges = append(p.Exchanges, api.Exchange{Name: strings.Repeat("x", 21), Kind: api.Topic})
		}},
		{"nine exchanges", func(p *state.Parts) { p.Exchanges = append(p.Exchanges, moreExchanges(6)...) }},
		{"bindings in another order", func(p *state.Parts) { p.Bindings[1], p.Bindings[2] = p.Bindings[2], p.Bindings[1] }},
		{"a binding twice", func(p *state.Parts) { p.Bindings = slices.Insert(p.Bindings, 1, p.Bindings[0]) }},
		{"a binding of no exchange", func(p *state.Parts) { p.Bindings = append(p.Bindings, api.Binding{Exchange: "x", Queue: "q"}) }},
		{"a binding of a queue without a name", func(p *state.Parts) { p.Bindings[3].Queue = "" }},
		{"a pattern at a direct exchange", func(p *state.Parts) { p.Bindings[0].Pattern = "#" }},
		{"a key at a fanout exchange", func(p *state.Parts) { p.Bindings[3].Pattern = "k" }},
		{"no pattern at a topic exchange", func(p *state.Parts) { p.Bindings[5].Pattern = "a..b" }},
		{"33 bindings", func(p *state.Parts) { p.Bindings = append(p.Bindings, moreBindings(27)...) }},
	}
}

func wrongQueues() []meddling {
	return []meddling{
		{"queues in another order", func(p *state.Parts) { p.Queues[0], p.Queues[1] = p.Queues[1], p.Queues[0] }},
		{"a queue twice", func(p *state.Parts) { p.Queues = slices.Insert(p.Queues, 1, p.Queues[0]) }},
		{"a queue without a name", func(p *state.Parts) { p.Queues[0].Name = "" }},
		{"a queue with a name that is none", func(p *state.Parts) { p.Queues[0].Name = "P" }},
		{"a queue for none", func(p *state.Parts) { p.Queues[1].Most = 0 }},
		{"a queue for too many", func(p *state.Parts) { p.Queues[1].Most = 1001 }},
		{"a queue for 65535", func(p *state.Parts) { p.Queues[1].Most = 65535 }},
		{"a queue with more than it holds", func(p *state.Parts) { p.Queues[0].Most = 3 }},
		{"no next tag", func(p *state.Parts) { p.Queues[1].Next = 0 }},
		{"a tag that is to come", func(p *state.Parts) { p.Queues[0].Next = 8 }},
		{"a tag of 0", func(p *state.Parts) { p.Queues[0].Ready[0].Tag = 0 }},
		{"tags that do not rise", func(p *state.Parts) { p.Queues[0].Ready[0].Tag = 5 }},
		{"tags that fall", func(p *state.Parts) { p.Queues[0].Out[0].Tag, p.Queues[0].Out[1].Tag = 8, 3 }},
		{"a tag that is ready and out", func(p *state.Parts) { p.Queues[0].Out[0].Tag = 5 }},
		{"17 queues", func(p *state.Parts) { p.Queues = empties(17) }},
	}
}

func wrongNumbers() []meddling {
	return []meddling{
		{"origins in another order", func(p *state.Parts) { p.Seen[0], p.Seen[1] = p.Seen[1], p.Seen[0] }},
		{"an origin twice", func(p *state.Parts) { p.Seen = slices.Insert(p.Seen, 1, p.Seen[0]) }},
		{"origin 0", func(p *state.Parts) { p.Seen[0].Origin = 0 }},
		{"origin 9", func(p *state.Parts) { p.Seen[2].Origin = 9 }},
		{"origin 255", func(p *state.Parts) { p.Seen[2].Origin = 255 }},
		{"an origin without ranges", func(p *state.Parts) { p.Seen[1].Ranges = nil }},
		{"a range from 0", func(p *state.Parts) { p.Seen[0].Ranges[0].Lo = 0 }},
		{"a range backwards", func(p *state.Parts) { p.Seen[1].Ranges[0] = api.Range{Lo: 4, Hi: 3} }},
		{"ranges that touch", func(p *state.Parts) { p.Seen[0].Ranges[1].Lo = 4 }},
		{"ranges in another order", func(p *state.Parts) { slices.Reverse(p.Seen[0].Ranges) }},
		{"links in another order", func(p *state.Parts) { p.Links[0], p.Links[1] = p.Links[1], p.Links[0] }},
		{"a link twice", func(p *state.Parts) { p.Links = slices.Insert(p.Links, 1, p.Links[0]) }},
		{"a link to the site itself", func(p *state.Parts) { p.Links[1].To = 2 }},
		{"a link to 0", func(p *state.Parts) { p.Links[0].To = 0 }},
		{"a link to no site", func(p *state.Parts) { p.Links[1].To = 4 }},
		{"a link to 255", func(p *state.Parts) { p.Links[1].To = 255 }},
		{"a link without messages", func(p *state.Parts) { p.Links[0].Messages = nil }},
		{"a link with too many", func(p *state.Parts) { p.Links[1].Messages = many(201) }},
		{"a message that is zero", func(p *state.Parts) { p.Links[0].Messages[1] = api.Message{} }},
		{"a message of origin 9", func(p *state.Parts) { p.Links[0].Messages[0].Ident.Origin = 9 }},
		{"a message without a number", func(p *state.Parts) { p.Links[0].Messages[1].Ident.Seq = 0 }},
		{"a message of 9 hops", func(p *state.Parts) { p.Links[0].Messages[1].Hop = 9 }},
		{"a message with no key", func(p *state.Parts) { p.Links[0].Messages[1].Key = "a." }},
		{"a message with a long body", func(p *state.Parts) { p.Links[1].Messages[0].Body = strings.Repeat("b", 201) }},
	}
}

func TestReadOfPartsThatNoStateHas(t *testing.T) {
	for _, m := range wrongs() {
		p := rich()
		m.do(&p)
		if _, err := state.From(2, triangle(), p); err != api.ErrDamage {
			t.Fatalf("%s is right", m.what)
		}
		wantDamage(t, m.what, plainBytes(p), 2, triangle())
	}
}

func TestReadForAnotherSite(t *testing.T) {
	b := plainBytes(rich())
	for _, site := range []int{math.MinInt, -1, 0, 1, 3, 4, 8, 9, 258, math.MaxInt} {
		wantDamage(t, fmt.Sprint("at ", site), b, site, triangle())
	}
	// Without links any site may be the one; what is read goes on as that one.
	p := rich()
	p.Links = nil
	for site := 1; site <= 3; site++ {
		s, err := Read(plainBytes(p), site, triangle())
		if err != api.OK {
			t.Fatalf("at %d: %v", site, err)
		}
		wantParts(t, "at another site", s, p)
		if _, err := s.Apply(enter(message(site, 5, 0, "b", "", ""))); err != api.OK {
			t.Errorf("at %d: %v", site, err)
		}
	}
}

func TestReadForAnotherTopology(t *testing.T) {
	b := plainBytes(rich())
	for _, w := range []api.Topology{
		{}, world(0, 1), world(-1, 1), world(9, 1), world(math.MaxInt, 1), world(3, -1, 2, 1, 2, 3), world(3, 9, 2, 1, 2, 3), world(3, math.MinInt),
		world(3, 2, 2, 1, 2, 3, 2, 1), world(3, 2, 2, 1, 2, 3, 2, 2), world(3, 2, 2, 1, 2, 3, 2, 4), world(3, 2, 2, 1, 2, 3, 0, 2),
		world(3, 2), world(3, 2, 2, 1), world(3, 2, 2, 3), world(3, 2, 1, 2, 3, 2), world(2, 2, 2, 1, 1, 2), world(1, 1),
	} {
		wantDamage(t, fmt.Sprint("of ", w), b, 2, w)
		if state.New(2, w) == nil {
			wantDamage(t, fmt.Sprint("nothing of ", w), make([]byte, 36), 2, w)
		}
	}
	for _, w := range []api.Topology{world(3, 0, 2, 3, 2, 1), world(8, 8, 2, 1, 2, 3, 2, 4)} {
		s, err := Read(b, 2, w)
		if err != api.OK {
			t.Fatalf("of %v: %v", w, err)
		}
		wantParts(t, "another topology", s, rich())
	}
}

func TestReadOfNothing(t *testing.T) {
	wantDamage(t, "nil", nil, 1, triangle())
	wantDamage(t, "an empty list", []byte{}, 1, triangle())
	wantDamage(t, "nothing at no site", nil, 0, api.Topology{})
	for n := range 80 {
		if n != 36 {
			wantDamage(t, fmt.Sprint(n, " noughts"), make([]byte, n), 1, triangle())
		}
	}
}

func TestReadOfBytesThatAreCut(t *testing.T) {
	b := plainBytes(rich())
	for n := range b {
		wantDamage(t, fmt.Sprint("cut to ", n), b[:n], 2, triangle())
		wantDamage(t, fmt.Sprint("from ", n+1, " on"), b[n+1:], 2, triangle())
		without := slices.Delete(slices.Clone(b), n, n+1)
		wantAsPlain(t, fmt.Sprint("without ", n), without)
	}
}

func TestReadOfBytesWithMore(t *testing.T) {
	b := plainBytes(rich())
	for v := range 256 {
		wantDamage(t, "one more", append(slices.Clone(b), byte(v)), 2, triangle())
	}
	wantDamage(t, "twice", append(slices.Clone(b), b...), 2, triangle())
	wantDamage(t, "a new state ahead", append(make([]byte, 36), b...), 2, triangle())
	for at := range b {
		for _, v := range []byte{0, 1, b[at]} {
			wantAsPlain(t, fmt.Sprint(v, " ahead of ", at), slices.Insert(slices.Clone(b), at, v))
		}
	}
}

func TestReadOfBytesOfWhichOneIsChanged(t *testing.T) {
	b := plainBytes(rich())
	states := 0
	for at := range b {
		for v := range 256 {
			if byte(v) == b[at] {
				continue
			}
			other := slices.Clone(b)
			other[at] = byte(v)
			if wantAsPlain(t, fmt.Sprint(at, " is ", v), other) {
				states++
			}
		}
	}
	if states < 1000 {
		t.Errorf("only %d were states", states)
	}
}

func TestReadOfYesAndNo(t *testing.T) {
	exchange := plainBytes(state.Parts{Exchanges: []api.Exchange{{Name: "x", Kind: api.Fanout, Federated: true}}})
	item := plainBytes(state.Parts{Queues: []state.QueuePart{{Name: "q", Most: 1, Next: 2, Ready: []api.Item{{Tag: 1, Message: message(1, 1, 0, "x", "", ""), Again: true}}}}})
	for _, c := range []struct {
		b  []byte
		at int
	}{{exchange, 16 + 4 + 2 + 1 + 1}, {item, len(item) - 4 - 4 - 4 - 1}} {
		if c.b[c.at] != 1 {
			t.Fatalf("no yes at %d of %v", c.at, c.b)
		}
		for v := range 256 {
			b := slices.Clone(c.b)
			b[c.at] = byte(v)
			if s, err := Read(b, 2, triangle()); (err == api.OK) != (v <= 1) || (s != nil) != (v <= 1) {
				t.Errorf("%d is %d: %v", c.at, v, err)
			}
			wantAsPlain(t, "yes or no", b)
		}
	}
}

// A count may tell more than any bytes have: Read must end, and take no memory for it.
func TestReadOfCountsThatAreTooGreat(t *testing.T) {
	one := state.Parts{
		Exchanges: []api.Exchange{{Name: "x", Kind: api.Fanout}},
		Bindings:  []api.Binding{{Exchange: "x", Queue: "q"}},
		Queues:    []state.QueuePart{{Name: "q", Most: 2, Next: 3, Ready: []api.Item{{Tag: 1, Message: message(1, 1, 0, "x", "", "")}}, Out: []api.Item{{Tag: 2, Message: message(1, 1, 0, "x", "", "")}}}},
		Seen:      []state.SeenPart{{Origin: 1, Ranges: []api.Range{{Lo: 1, Hi: 1}}}},
		Links:     []state.LinkPart{{To: 1, Messages: []api.Message{message(2, 1, 1, "x", "", "")}}},
	}
	b := plainBytes(one)
	if !wantAsPlain(t, "one of everything", b) {
		t.Fatal("one of everything is no state")
	}
	counts := []int{16}                         // exchanges
	counts = append(counts, counts[0]+4+5)      // bindings
	counts = append(counts, counts[1]+4+8)      // queues
	counts = append(counts, counts[2]+4+3+2+8)  // ready
	counts = append(counts, counts[3]+4+8+17+1) // out
	counts = append(counts, counts[4]+4+8+17+1) // seen
	counts = append(counts, counts[5]+4+1)      // ranges
	counts = append(counts, counts[6]+4+16)     // links
	counts = append(counts, counts[7]+4+1)      // messages
	for _, at := range counts {
		if !slices.Equal(b[at:at+4], []byte{0, 0, 0, 1}) {
			t.Fatalf("no count at %d of %v", at, b)
		}
		for _, count := range [][]byte{{0, 0, 0, 0}, {0, 0, 0, 2}, {0, 0, 1, 1}, {1, 0, 0, 1}, {0x7f, 0xff, 0xff, 0xff}, {0x80, 0, 0, 0}, {0xff, 0xff, 0xff, 0xff}} {
			other := slices.Clone(b)
			copy(other[at:], count)
			wantDamage(t, fmt.Sprint(count, " at ", at), other, 2, triangle())
			wantAsPlain(t, fmt.Sprint(count, " at the end, ", at), other[:at+4])
		}
	}
}

func TestReadOfAnyBytes(t *testing.T) {
	r := rand.New(rand.NewSource(51))
	b := plainBytes(rich())
	states := 0
	for range 20000 {
		other := slices.Clone(b)
		for range 1 + r.Intn(3) {
			at, to := r.Intn(len(other)), r.Intn(len(other))
			switch r.Intn(5) {
			case 0:
				other[at] = byte(r.Intn(256))
			case 1:
				other[at] = byte(r.Intn(4))
			case 2:
				other[at] ^= 1 << r.Intn(8)
			case 3:
				copy(other[at:], other[to:min(len(other), to+1+r.Intn(30))])
			case 4:
				other = slices.Delete(other, min(at, to), min(max(at, to), min(at, to)+8))
			}
			if len(other) == 0 {
				break
			}
		}
		if wantAsPlain(t, "any bytes", other) {
			states++
		}
	}
	if states < 1000 {
		t.Errorf("only %d were states", states)
	}
	for range 20000 {
		any := make([]byte, r.Intn(120))
		for i := range any {
			any[i] = byte(r.Intn(3))
			if r.Intn(3) > 0 {
				any[i] = 0
			}
		}
		wantAsPlain(t, "bytes of few signs", any)
	}
}

// P15.2, Same

func TestSame(t *testing.T) {
	s := withParts(t, 2, triangle(), rich())
	for what, other := range map[string]*state.State{
		"itself":           s,
		"a copy":           s.Copy(),
		"of the same":      withParts(t, 2, triangle(), rich()),
		"another topology": withParts(t, 2, world(8, 0, 2, 1, 2, 3), rich()),
	} {
		if !Same(s, other) || !Same(other, s) {
			t.Errorf("%s is another", what)
		}
	}
	// Bytes are of Parts alone, which do not tell the site.
	if !Same(state.New(1, triangle()), state.New(2, world(2, 0))) {
		t.Error("two new ones are not the same")
	}
}

// others are meddlings with which there is another state, each by one thing.
func others() []meddling {
	return []meddling{
		{"Seq", func(p *state.Parts) { p.Seq = 5 }},
		{"Seq, far up", func(p *state.Parts) { p.Seq |= 1 << 63 }},
		{"Boots", func(p *state.Parts) { p.Boots = 3 }},
		{"Seq and Boots", func(p *state.Parts) { p.Seq, p.Boots = p.Boots, p.Seq }},
		{"an exchange's name", func(p *state.Parts) { p.Exchanges[2].Name, p.Bindings = "d", p.Bindings[:4] }},
		{"an exchange's kind", func(p *state.Parts) { p.Exchanges[0].Kind = api.Topic }},
		{"federated", func(p *state.Parts) { p.Exchanges[0].Federated = true }},
		{"not federated", func(p *state.Parts) { p.Exchanges[1].Federated = false }},
		{"one exchange more", func(p *state.Parts) { p.Exchanges = append(p.Exchanges, moreExchanges(1)...) }},
		{"a binding's exchange", func(p *state.Parts) { p.Bindings[2] = api.Binding{Exchange: "a", Queue: "r", Pattern: "k"} }},
		{"a pattern", func(p *state.Parts) { p.Bindings[5].Pattern = "a.#.*" }},
		{"one binding less", func(p *state.Parts) { p.Bindings = p.Bindings[:5] }},
		{"a queue's name", func(p *state.Parts) { p.Queues[2].Name = "s" }},
		{"a queue's most", func(p *state.Parts) { p.Queues[1].Most = 257 }},
		{"a queue's next", func(p *state.Parts) { p.Queues[1].Next = 2 }},
		{"one queue less", func(p *state.Parts) { p.Queues = p.Queues[:2] }},
		{"a tag", func(p *state.Parts) { p.Queues[0].Ready[0].Tag = 1 }},
		{"a mark", func(p *state.Parts) { p.Queues[0].Ready[0].Again = true }},
		{"a mark of one that is out", func(p *state.Parts) { p.Queues[0].Out[1].Again = false }},
		{"an item's body", func(p *state.Parts) { p.Queues[0].Out[1].Message.Body = "" }},
		{"an item's hop", func(p *state.Parts) { p.Queues[0].Out[1].Message.Hop = 2 }},
		{"an item's exchange and key", func(p *state.Parts) { m := &p.Queues[0].Out[1].Message; m.Exchange, m.Key = "xk", ".l" }},
		{"ready and out", func(p *state.Parts) { p.Queues[2].Ready, p.Queues[2].Out = nil, p.Queues[2].Ready }},
		{"an origin", func(p *state.Parts) { p.Seen[2].Origin = 4 }},
		{"a range's beginning", func(p *state.Parts) { p.Seen[2].Ranges[0].Lo = 8 }},
		{"a range's end", func(p *state.Parts) { p.Seen[2].Ranges[0].Hi = top - 1 }},
		{"one range less", func(p *state.Parts) { p.Seen[0].Ranges = p.Seen[0].Ranges[:1] }},
		{"a message that waits", func(p *state.Parts) { p.Links[1].Messages[0].Ident.Seq = 2 }},
		{"messages in another order", func(p *state.Parts) { slices.Reverse(p.Links[0].Messages) }},
		{"one message less", func(p *state.Parts) { p.Links[0].Messages = p.Links[0].Messages[:1] }},
		{"one link less", func(p *state.Parts) { p.Links = p.Links[:1] }},
		{"the other link less", func(p *state.Parts) { p.Links = p.Links[1:] }},
	}
}

func TestSameOfOthers(t *testing.T) {
	s := withParts(t, 2, triangle(), rich())
	var all []*state.State
	for _, m := range others() {
		p := rich()
		m.do(&p)
		other := withParts(t, 2, triangle(), p)
		if Same(s, other) || Same(other, s) {
			t.Errorf("with other %s they are the same", m.what)
		}
		if !Same(other, other.Copy()) {
			t.Errorf("with other %s it is not itself", m.what)
		}
		wantUndone(t, m.what, other, 2, triangle())
		all = append(all, other)
	}
	for i := range all {
		for k := range i {
			if Same(all[i], all[k]) {
				t.Errorf("%s and %s are the same", others()[i].what, others()[k].what)
			}
		}
	}
}

func TestSameOfStatesThatNoCallMade(t *testing.T) {
	none := []*state.State{nil, {}}
	for _, a := range none {
		for _, b := range none {
			if !Same(a, b) {
				t.Error("two that no call made are not the same")
			}
		}
		for _, s := range []*state.State{state.New(1, triangle()), withParts(t, 2, triangle(), rich())} {
			if Same(a, s) || Same(s, a) {
				t.Error("one that no call made is the same as one that is made")
			}
		}
	}
}

// P15.3

// someAct is any act, most of them good, of few names and numbers.
func someAct(r *rand.Rand, s *state.State, site int, w api.Topology) api.Act {
	pick := func(l ...string) string { return l[r.Intn(len(l))] }
	name := func() string { return pick("q", "q", "r", "p", "q1") }
	ex := func() string { return pick("x", "x", "y", "d") }
	key := func() string { return pick("", "a", "a.b", "c") }
	body := func() string { return strings.Repeat(pick("b", "\x00", "é"), r.Intn(5)) }
	tag := func(q string) uint64 {
		if p, _ := s.Queue(q); len(p.Out) > 0 {
			return p.Out[r.Intn(len(p.Out))].Tag
		}
		return 1
	}
	switch r.Intn(16) {
	case 0, 1:
		return queue(name(), 5)
	case 2:
		if r.Intn(8) == 0 {
			return api.Act{Kind: api.ActNoQueue, Name: name()}
		}
		return exchange(ex(), 1+r.Intn(3), r.Intn(3) > 0)
	case 3:
		if r.Intn(8) == 0 {
			return api.Act{Kind: api.ActNoEx, Name: ex()}
		}
		return exchange("x", api.Topic, true)
	case 4, 5:
		return binding(ex(), name(), pick("", "", "#", "a.*", "a", "a.b"))
	case 6, 7, 8:
		return enter(message(site, s.Parts().Seq+1, 0, ex(), key(), body()))
	case 9, 10:
		return enter(message(1+r.Intn(w.Sites), uint64(1+r.Intn(30)), 1+r.Intn(2), ex(), key(), body()))
	case 11:
		return give(name())
	case 12:
		q := name()
		return ack(q, tag(q))
	case 13:
		q := name()
		return back(q, tag(q))
	case 14:
		return sent(1+r.Intn(w.Sites), 1+r.Intn(3))
	}
	if r.Intn(4) == 0 {
		return boot()
	}
	return give(name())
}

// someWorld is any topology, and a site of it.
func someWorld(r *rand.Rand) (api.Topology, int) {
	w := api.Topology{Sites: 1 + r.Intn(8), Hops: r.Intn(5)}
	for from := 1; from <= w.Sites; from++ {
		for to := 1; to <= w.Sites; to++ {
			if from != to && r.Intn(2) == 0 {
				w.Edges = append(w.Edges, api.Edge{From: from, To: to})
			}
		}
	}
	return w, 1 + r.Intn(w.Sites)
}

// What is read goes on as what was written: both do the same acts from there, with the same answers.
func TestLongRows(t *testing.T) {
	r := rand.New(rand.NewSource(3))
	done := 0
	for range 80 {
		w, site := someWorld(r)
		s, again := state.New(site, w), state.New(site, w)
		for range 250 {
			a := someAct(r, s, site, w)
			before := s.Copy()
			told, err := s.Apply(a)
			toldToo, errToo := again.Apply(a)
			if err != errToo || !slices.Equal(told, toldToo) {
				t.Fatalf("Apply(%+v): %v %v, behind Read %v %v", a, told, err, toldToo, errToo)
			}
			if same := sameParts(before.Parts(), s.Parts()); Same(before, s) != same {
				t.Fatalf("Same behind %+v: %v", a, !same)
			}
			if err == api.OK {
				done++
			}
			wantBytes(t, "a long row", Bytes(s), plainBytes(s.Parts()))
			again = wantUndone(t, "a long row", s, site, w)
		}
	}
	if done < 5000 {
		t.Errorf("only %d acts were done", done)
	}
}

// R3

// roomy is bytes with others in the room behind their end.
func roomy(b []byte) []byte {
	return append(slices.Clone(b), bytes.Repeat([]byte{7}, 100)...)[:len(b)]
}

func wantRoom(t *testing.T, b []byte) {
	t.Helper()
	for _, v := range b[len(b) : len(b)+100] {
		if v != 7 {
			t.Fatal("the room behind the bytes was changed")
		}
	}
}

func scribble(b []byte) {
	b = b[:cap(b)]
	for i := range b {
		b[i] = 'z'
	}
}

func TestBytesAreNewMemory(t *testing.T) {
	s := withParts(t, 2, triangle(), rich())
	one, two := Bytes(s), Bytes(s)
	scribble(one)
	wantBytes(t, "the other answer", two, plainBytes(rich()))
	wantBytes(t, "the next answer", Bytes(s), plainBytes(rich()))
	wantParts(t, "behind a change of the answer", s, rich())
	s.Apply(boot())
	wantBytes(t, "behind a change of the state", two, plainBytes(rich()))
}

func TestReadKeepsAndChangesNothingThatIsGiven(t *testing.T) {
	b, w := roomy(plainBytes(rich())), triangle()
	s, err := Read(b, 2, w)
	if err != api.OK {
		t.Fatal(err)
	}
	wantBytes(t, "what was given", b, plainBytes(rich()))
	wantRoom(t, b)
	if !slices.Equal(w.Edges, triangle().Edges) {
		t.Error("the edges were changed")
	}
	two, _ := Read(b, 2, w)
	scribble(b)
	for i := range w.Edges {
		w.Edges[i] = api.Edge{From: 3, To: 1}
	}
	wantParts(t, "behind a change of what was given", s, rich())
	// Two that were read of the same bytes are two.
	for _, a := range []api.Act{give("p"), ack("p", 3), sent(1, 1), boot(), enter(message(2, 5, 0, "b", "", "")), sent(3, 2)} {
		if _, err := s.Apply(a); err != api.OK {
			t.Fatalf("Apply(%+v): %v", a, err)
		}
	}
	wantParts(t, "the other one", two, rich())
}

func TestReadOfDamageChangesNothingThatIsGiven(t *testing.T) {
	for _, m := range wrongs() {
		p := rich()
		m.do(&p)
		b := roomy(plainBytes(p))
		Read(b, 2, triangle())
		wantBytes(t, m.what, b, plainBytes(p))
		wantRoom(t, b)
		cut := roomy(b[:len(b)/2])
		Read(cut, 2, triangle())
		wantBytes(t, m.what, cut, b[:len(b)/2])
		wantRoom(t, cut)
	}
}

// Room behind the end is no part of the bytes, though what lacks stands there.
func TestReadGoesNotBeyondTheEnd(t *testing.T) {
	b := plainBytes(rich())
	for n := range b {
		wantDamage(t, fmt.Sprint("room behind ", n), b[:n:len(b)], 2, triangle())
	}
}

// They are pure functions: several may be asked of one state at once.
func TestSeveralAtOnce(t *testing.T) {
	s := withParts(t, 2, triangle(), rich())
	want := plainBytes(rich())
	var wg sync.WaitGroup
	wrong := make([]bool, 8)
	for i := range wrong {
		wg.Go(func() {
			for range 50 {
				again, err := Read(want, 2, triangle())
				if !bytes.Equal(Bytes(s), want) || err != api.OK || !Same(s, again) {
					wrong[i] = true
				}
			}
		})
	}
	wg.Wait()
	if slices.Contains(wrong, true) {
		t.Error("several at once tell others")
	}
}

// P1: each call ends, at arguments of any size.

// full are parts with the most of everything.
func full() state.Parts {
	p := state.Parts{Seq: top, Boots: top}
	body, key := strings.Repeat("b", 200), strings.Repeat("k", 60)
	name := func(i int) string { return fmt.Sprintf("%s%02d", strings.Repeat("n", 18), i) }
	for i := range 8 {
		p.Exchanges = append(p.Exchanges, api.Exchange{Name: name(i), Kind: api.Direct, Federated: true})
		ranges := make([]api.Range, 1<<14)
		for k := range ranges {
			ranges[k] = api.Range{Lo: top - uint64(3*(len(ranges)-k)), Hi: top - uint64(3*(len(ranges)-k)) + 1}
		}
		p.Seen = append(p.Seen, state.SeenPart{Origin: i + 1, Ranges: ranges})
	}
	for i := range 32 {
		p.Bindings = append(p.Bindings, api.Binding{Exchange: name(i / 4), Queue: name(i % 4), Pattern: key})
	}
	for i := range 16 {
		q := state.QueuePart{Name: name(i), Most: 1000, Next: top}
		for k := range 1000 {
			item := api.Item{Tag: top - 2000 + uint64(k), Message: message(8, top, 8, name(0), key, body), Again: k%2 == 0}
			if k%3 == 0 {
				q.Out = append(q.Out, item)
			} else {
				q.Ready = append(q.Ready, item)
			}
		}
		p.Queues = append(p.Queues, q)
	}
	for to := 2; to <= 8; to++ {
		l := state.LinkPart{To: to}
		for k := range 200 {
			l.Messages = append(l.Messages, message(1, uint64(k+1), 1, name(1), key, body))
		}
		p.Links = append(p.Links, l)
	}
	return p
}

func TestTheGreatestState(t *testing.T) {
	w := world(8, 8, 1, 2, 1, 3, 1, 4, 1, 5, 1, 6, 1, 7, 1, 8)
	p := full()
	s := withParts(t, 1, w, p)
	if !bytes.Equal(Bytes(s), plainBytes(p)) {
		t.Error("other bytes")
	}
	wantUndone(t, "full", s, 1, w)
}

func TestGreatArguments(t *testing.T) {
	wantDamage(t, "many noughts", make([]byte, 1<<22), 1, triangle())
	wantDamage(t, "many others", bytes.Repeat([]byte{255}, 1<<22), 1, triangle())
	for what, p := range map[string]state.Parts{
		"exchanges": {Exchanges: make([]api.Exchange, 1<<18)},
		"bindings":  {Bindings: make([]api.Binding, 1<<18)},
		"queues":    {Queues: make([]state.QueuePart, 1<<17)},
		"items":     {Queues: []state.QueuePart{{Name: "q", Most: 1000, Next: top, Ready: make([]api.Item, 1<<17), Out: make([]api.Item, 1<<17)}}},
		"seen":      {Seen: make([]state.SeenPart, 1<<18)},
		"ranges":    {Seen: []state.SeenPart{{Origin: 1, Ranges: make([]api.Range, 1<<18)}}},
		"links":     {Links: make([]state.LinkPart, 1<<18)},
		"messages":  {Links: []state.LinkPart{{To: 2, Messages: make([]api.Message, 1<<17)}}},
	} {
		wantDamage(t, "many "+what, plainBytes(p), 1, triangle())
	}
}
