package broker

import (
	"fmt"
	"math"
	"math/rand"
	"reflect"
	"slices"
	"strings"
	"sync"
	"testing"

	"staith/api"
	"staith/ledger"
	"staith/state"
	"staith/still"
	"staith/store"
	"staith/vault"
)

const top = math.MaxUint64

// strange are numbers that are no client's.
var strange = []int{0, -1, -7, 1001, 1<<32 + 7, math.MinInt, math.MaxInt}

// noNames are texts that are no name, each for another cause.
func noNames() []string {
	return []string{"", "Q", "q.", "a.b", "*", "#", "q ", "\x00", "\xff", strings.Repeat("q", api.MaxName+1), strings.Repeat("q", 70000)}
}

func queue(name string, n int) api.Command {
	return api.Command{Kind: api.CmdQueue, Client: 1, Name: name, N: n}
}

func noQueue(name string) api.Command {
	return api.Command{Kind: api.CmdNoQueue, Client: 1, Name: name}
}

func exchange(name string, kind int, federated bool) api.Command {
	return api.Command{Kind: api.CmdExchange, Client: 2, Exchange: api.Exchange{Name: name, Kind: kind, Federated: federated}}
}

func noExchange(name string) api.Command {
	return api.Command{Kind: api.CmdNoEx, Client: 2, Name: name}
}

func binding(x, q, pattern string) api.Command {
	return api.Command{Kind: api.CmdBind, Client: 3, Binding: api.Binding{Exchange: x, Queue: q, Pattern: pattern}}
}

func noBinding(x, q, pattern string) api.Command {
	return api.Command{Kind: api.CmdUnbind, Client: 3, Binding: api.Binding{Exchange: x, Queue: q, Pattern: pattern}}
}

func publish(x, key, body string) api.Command {
	return api.Command{Kind: api.CmdPublish, Client: 4, Name: x, Key: key, Body: body}
}

func consume(client int, q string, n int) api.Command {
	return api.Command{Kind: api.CmdConsume, Client: client, Name: q, N: n}
}

func cancel(client int) api.Command { return api.Command{Kind: api.CmdCancel, Client: client} }

func ack(client int, tag uint64) api.Command {
	return api.Command{Kind: api.CmdAck, Client: client, Tag: tag}
}

func back(client int, tag uint64) api.Command {
	return api.Command{Kind: api.CmdBack, Client: client, Tag: tag}
}

// said, confirmed and item are answers.
func said(client int, err api.Errno) api.Answer {
	return api.Answer{Kind: api.SaidDone, Client: client, Err: err}
}

func confirmed(client, origin int, seq uint64) api.Answer {
	return api.Answer{Kind: api.SaidConfirm, Client: client, Ident: api.Ident{Origin: origin, Seq: seq}}
}

func item(client int, q string, tag uint64, m api.Message, again bool) api.Answer {
	return api.Answer{Kind: api.SaidItem, Client: client, Queue: q, Item: api.Item{Tag: tag, Message: m, Again: again}}
}

func message(origin int, seq uint64, hop int, x, key, body string) api.Message {
	return api.Message{Ident: api.Ident{Origin: origin, Seq: seq}, Hop: hop, Exchange: x, Key: key, Body: body}
}

// own is a message of site 1, published to x with no key.
func own(seq uint64, body string) api.Message { return message(1, seq, 0, "x", "", body) }

// tables are commands that make the queues, and x, a fanout exchange that leads to all of them, and is not federated.
func tables(queues ...string) []api.Command {
	l := []api.Command{exchange("x", api.Fanout, false)}
	for _, q := range queues {
		l = append(l, queue(q, 1000), binding("x", q, ""))
	}
	return l
}

// two are sites with an edge to and fro.
func two() api.Topology {
	return api.Topology{Sites: 2, Edges: []api.Edge{{From: 1, To: 2}, {From: 2, To: 1}}, Hops: 2}
}

// set are settings, of which only the log's matter here.
func set(segment, keep int) api.Settings {
	return api.Settings{Window: 4, Timeout: 3, Segment: segment, Keep: keep}
}

// rare are settings with which no checkpoint comes soon.
func rare() api.Settings { return set(1<<20, 1000) }

// opened is a vault of site 1.
func opened(t *testing.T, s *store.Store) *vault.Vault {
	t.Helper()
	v, err := vault.Open(s, 1, two(), rare())
	wantErr(t, "Open", err, api.OK)
	return v
}

// from is a pair over a state that has these parts already.
func from(t *testing.T, p state.Parts) *pair {
	t.Helper()
	x := &pair{t: t, what: t.Name(), site: 1, w: two(), x: rare(), s: store.New(1 << 24), ps: store.New(1 << 24)}
	now, err := state.From(1, two(), p)
	wantErr(t, "From", err, api.OK)
	x.both(func(s *store.Store) {
		log, _, _, err := ledger.Open(s, 64)
		wantErr(t, "ledger's Open", err, api.OK)
		wantErr(t, "Mark", log.Mark(still.Bytes(now)), api.OK)
	})
	x.open()
	return x
}

// tags are those of items.
func tags(l []api.Item) []uint64 {
	var out []uint64
	for _, i := range l {
		out = append(out, i.Tag)
	}
	return out
}

// wantQueue: are these tags ready, and these out?
func (x *pair) wantQueue(name string, ready, out []uint64) {
	x.t.Helper()
	q, is := x.b.State().Queue(name)
	if !is || !slices.Equal(tags(q.Ready), ready) || !slices.Equal(tags(q.Out), out) {
		x.t.Fatalf("%s: queue %s: %v: ready %v, out %v, want %v and %v", x.what, name, is, tags(q.Ready), tags(q.Out), ready, out)
	}
}

// P18.1: New

func TestNew(t *testing.T) {
	for site := 1; site <= api.MaxSites; site++ {
		s := store.New(10000)
		v := opened(t, s)
		before := written(s)
		b := New(v, site)
		if b == nil {
			t.Fatalf("site %d: there is none", site)
		}
		wantSame(t, "On", b.On(), true)
		wantSame(t, "Clients", len(b.Clients()), 0)
		wantAnswers(t, "Answers", b.Answers())
		wantState(t, "State", b.State(), v.State())
		wantSame(t, "the store", written(s), before)
	}
}

func TestNewRefusesSites(t *testing.T) {
	v := opened(t, store.New(10000))
	for _, site := range []int{0, -1, 9, 10, 1<<32 + 1, math.MinInt, math.MaxInt} {
		if New(v, site) != nil {
			t.Errorf("site %d: there is one", site)
		}
	}
}

func TestNewRefusesVaultsThatAreNotOn(t *testing.T) {
	s := store.New(10000)
	dark := opened(t, s)
	s.Fail(0)
	s = store.New(10000)
	back := opened(t, s)
	s.Plan(1, 0)
	back.Do(api.Act{Kind: api.ActBoot})
	wantErr(t, "Flush", back.Flush(), api.ErrDark)
	s.Power()
	s = store.New(100)
	full := opened(t, s)
	for range 100 {
		full.Do(api.Act{Kind: api.ActBoot})
	}
	wantErr(t, "Flush", full.Flush(), api.ErrSpace)
	for what, v := range map[string]*vault.Vault{"nil": nil, "the zero value": {}, "without power": dark, "a Flush had ErrDark": back, "a Flush had ErrSpace": full} {
		for _, site := range []int{0, 1, 8} {
			if New(v, site) != nil {
				t.Errorf("%s, site %d: there is one", what, site)
			}
		}
	}
}

// P18.1: Do, what holds of all commands

func TestExample(t *testing.T) {
	b := New(opened(t, store.New(50000)), 1)
	for _, c := range []api.Command{queue("q", 5), exchange("x", api.Fanout, false), binding("x", "q", ""), consume(7, "q", 2), publish("x", "", "v")} {
		wantErr(t, "Do", b.Do(c), api.OK)
	}
	wantAnswers(t, "Answers", b.Answers(), said(1, api.OK), said(2, api.OK), said(3, api.OK), said(7, api.OK), confirmed(4, 1, 1), item(7, "q", 1, own(1, "v"), false))
	wantAnswers(t, "Answers, again", b.Answers())
}

// each is a command of each kind, that is done behind busy.
func each() []api.Command {
	return []api.Command{queue("other", 3), noQueue("q"), exchange("other", api.Topic, true), noExchange("x"), binding("y", "r", "p"), noBinding("x", "q", ""), publish("x", "key", "body"), consume(9, "r", 3), cancel(7), ack(7, 1), back(7, 2)}
}

// busy is a pair with two queues, and a client that holds two items.
func busy(t *testing.T) *pair {
	t.Helper()
	x := easy(t)
	x.done(tables("q", "r")...)
	x.done(exchange("y", api.Direct, false))
	x.done(consume(7, "q", 2), publish("x", "", "a"), publish("x", "", "b"), publish("x", "", "c"))
	x.wantQueue("q", []uint64{3}, []uint64{1, 2})
	return x
}

func TestEachKindIsDone(t *testing.T) {
	for i, c := range each() {
		wantSame(t, "Kind", c.Kind, i+1)
		x := busy(t)
		before := still.Bytes(x.b.State())
		x.done(c)
		if slices.Equal(before, still.Bytes(x.b.State())) {
			t.Errorf("%+v: nothing has changed", c)
		}
	}
}

// TestFieldsThatAreNotNamedAreNotLookedAt: they may be anything.
func TestFieldsThatAreNotNamedAreNotLookedAt(t *testing.T) {
	junk := api.Command{Client: 7, Name: "Junk.", N: -5, Tag: 77, Exchange: api.Exchange{Name: "J", Kind: 9}, Binding: api.Binding{Exchange: "J", Queue: "J", Pattern: "J"}, Key: "J..", Body: strings.Repeat("J", 300)}
	named := map[int]string{1: "Name N", 2: "Name", 3: "Exchange", 4: "Name", 5: "Binding", 6: "Binding", 7: "Name Key Body", 8: "Name N", 9: "", 10: "Tag", 11: "Tag"}
	for _, c := range each() {
		full := c
		from, to := reflect.ValueOf(junk), reflect.ValueOf(&full).Elem()
		for i := range from.NumField() {
			name := from.Type().Field(i).Name
			if name != "Kind" && name != "Client" && !slices.Contains(strings.Fields(named[c.Kind]), name) {
				to.Field(i).Set(from.Field(i))
			}
		}
		x := busy(t)
		x.what = fmt.Sprintf("%+v", full)
		err, want := x.b.Do(full), x.p.Do(c)
		x.same("Do", err, want)
		told := x.told("Do")
		wantErr(t, x.what, told[0].Err, api.OK)
	}
}

func TestTheAnswersClient(t *testing.T) {
	for _, client := range append([]int{1, 7, 500, 1000}, strange...) {
		for _, c := range each() {
			if c.Kind >= api.CmdConsume {
				continue
			}
			x := busy(t)
			c.Client = client
			x.done(c)
			wantSame(t, fmt.Sprintf("%+v", c), x.all[len(x.all)-1].Client, client)
		}
		x := busy(t)
		x.refused(api.Command{Client: client}, api.ErrInput)
	}
}

func TestOtherKinds(t *testing.T) {
	x := busy(t)
	for _, kind := range []int{0, -1, 12, 13, 255, 1<<32 + 1, math.MinInt, math.MaxInt} {
		c := publish("x", "", "b")
		c.Kind = kind
		x.refused(c, api.ErrInput)
	}
}

func TestARefusedCommandGivesAndFlushesToo(t *testing.T) {
	x := busy(t)
	x.done(consume(8, "r", 1))
	x.done(ack(8, 1), ack(8, 2), ack(8, 3))
	x.beside(api.Act{Kind: api.ActEnter, Message: own(4, "d")})
	wantSame(t, "Pending", x.v.Pending(), 1)
	told := x.do(queue("Q", 0))
	wantAnswers(t, "Do", told, said(1, api.ErrInput), item(8, "r", 4, own(4, "d"), false))
	wantSame(t, "Pending", x.v.Pending(), 0)
}

func TestEachCommandIsSureWhenItIsAnswered(t *testing.T) {
	for _, c := range each() {
		x := busy(t)
		x.done(c)
		wantSame(t, "Pending", x.v.Pending(), 0)
		want := x.b.State()
		x.both(func(s *store.Store) { s.Fail(-1) })
		x.both((*store.Store).Power)
		wantErr(t, "Open", x.open(), api.OK)
		want.Apply(api.Act{Kind: api.ActBoot})
		wantState(t, fmt.Sprintf("%+v: behind a failure", c), x.b.State(), want)
	}
}

// P18.1: queues, exchanges, bindings

func TestQueues(t *testing.T) {
	x := easy(t)
	for _, n := range []int{1, 2, 999, 1000} {
		x.done(queue(fmt.Sprint("q", n), n))
		q, is := x.b.State().Queue(fmt.Sprint("q", n))
		wantSame(t, "Most", q.Most, n)
		wantSame(t, "is it there", is, true)
	}
	x.done(queue("q2", 2))
	x.refused(queue("q2", 3), api.ErrKind)
	for _, n := range []int{0, -1, 1001, math.MinInt, math.MaxInt} {
		x.refused(queue("other", n), api.ErrInput)
	}
	for _, name := range noNames() {
		x.refused(queue(name, 1), api.ErrInput)
		x.refused(noQueue(name), api.ErrInput)
	}
	for i := range api.MaxQueues - 4 {
		x.done(queue(fmt.Sprint("more", i), 1))
	}
	x.refused(queue("toomany", 1), api.ErrLimit)
	x.refused(noQueue("toomany"), api.ErrMissing)
	x.done(noQueue("q1"), queue("toomany", 1))
}

func TestExchangesAndBindings(t *testing.T) {
	x := easy(t)
	x.done(queue("q", 1), exchange("x", api.Topic, true), exchange("y", api.Direct, false))
	x.done(exchange("x", api.Topic, true))
	x.refused(exchange("x", api.Topic, false), api.ErrKind)
	x.refused(exchange("z", 4, false), api.ErrInput)
	x.refused(exchange("Z", api.Fanout, false), api.ErrInput)
	x.refused(noExchange("z"), api.ErrMissing)
	x.refused(noExchange("Z"), api.ErrInput)
	x.refused(binding("x", "r", "#"), api.ErrMissing)
	x.refused(binding("z", "q", "#"), api.ErrMissing)
	x.refused(binding("X", "q", "#"), api.ErrInput)
	x.refused(binding("x", "q", strings.Repeat("a", 61)), api.ErrInput)
	x.refused(binding("x", "q", "a..b"), api.ErrInput)
	x.done(binding("x", "q", "#"), binding("y", "q", "k"))
	x.refused(noBinding("x", "q", "a"), api.ErrMissing)
	x.done(noBinding("x", "q", "#"), noExchange("y"))
	wantSame(t, "bindings", len(x.b.State().Parts().Bindings), 0)
}

func TestNoQueueForgetsItsClients(t *testing.T) {
	x := easy(t)
	x.done(tables("q", "r")...)
	x.done(consume(7, "q", 2), consume(8, "r", 2), consume(9, "q", 1), publish("x", "", "a"), publish("x", "", "b"))
	x.refused(noQueue("s"), api.ErrMissing)
	wantSame(t, "Clients", fmt.Sprint(x.b.Clients()), "[7 8 9]")
	x.done(noQueue("q"))
	wantSame(t, "Clients", fmt.Sprint(x.b.Clients()), "[8]")
	x.refused(ack(7, 1), api.ErrMissing)
	x.refused(cancel(9), api.ErrMissing)
	x.refused(consume(7, "q", 1), api.ErrMissing)
	x.wantQueue("r", nil, []uint64{1, 2})
	// Nobody wants those of a queue of the same name.
	x.done(queue("q", 5), binding("x", "q", ""), publish("x", "", "c"))
	x.wantQueue("q", []uint64{1}, nil)
	given := x.done(consume(7, "q", 1))
	wantAnswers(t, "the new queue", given, item(7, "q", 1, own(3, "c"), false))
	x.done(ack(7, 1), ack(8, 2))
}

// P18.1: publish

func TestPublish(t *testing.T) {
	x := easy(t)
	x.done(queue("q", 1000), exchange("t", api.Topic, false), exchange("d", api.Direct, true), binding("t", "q", "a.*"), binding("d", "q", "k"))
	seq := uint64(0)
	for _, c := range []api.Command{
		publish("t", "a.b", "one"), publish("t", "b", "nowhere"), publish("d", "k", "two"), publish("d", "", ""),
		publish("t", strings.Repeat("k", 60), strings.Repeat("b", 200)), publish("d", "k", "\x00\xff\n"),
	} {
		seq++
		wantAnswers(t, "Do", x.do(c), confirmed(4, 1, seq))
		wantSame(t, "Seq", x.b.State().Parts().Seq, seq)
		wantSame(t, "Has", x.b.State().Has(api.Ident{Origin: 1, Seq: seq}), true)
	}
	q, _ := x.b.State().Queue("q")
	want := []api.Item{{Tag: 1, Message: message(1, 1, 0, "t", "a.b", "one")}, {Tag: 2, Message: message(1, 3, 0, "d", "k", "two")}, {Tag: 3, Message: message(1, 6, 0, "d", "k", "\x00\xff\n")}}
	if !slices.Equal(q.Ready, want) {
		t.Errorf("ready: %+v", q.Ready)
	}
	if l := x.b.State().Link(2); len(l) != 3 || l[0] != message(1, 3, 1, "d", "k", "two") {
		t.Errorf("what waits for site 2: %+v", l)
	}
}

func TestPublishIsRefused(t *testing.T) {
	x := easy(t)
	x.done(queue("q", 1), queue("r", 2), exchange("x", api.Fanout, false), binding("x", "q", ""), binding("x", "r", ""))
	x.refused(publish("y", "", ""), api.ErrMissing)
	for _, name := range noNames() {
		x.refused(publish(name, "", ""), api.ErrInput)
	}
	for _, key := range []string{".", "a.", "A", "*", strings.Repeat("k", 61), "a.b.c.d.e.f.g.h.i.j.k.l.m"} {
		x.refused(publish("x", key, ""), api.ErrInput)
	}
	x.refused(publish("x", "", strings.Repeat("b", 201)), api.ErrInput)
	x.done(publish("x", "", "a"))
	x.refused(publish("x", "", "b"), api.ErrSpace)
	// What is refused takes no number.
	x.done(noBinding("x", "q", ""))
	wantAnswers(t, "Do", x.do(publish("x", "", "b")), confirmed(4, 1, 2))
}

func TestPublishToAFullLink(t *testing.T) {
	x := easy(t)
	x.done(exchange("x", api.Fanout, true), exchange("y", api.Fanout, false))
	for range api.MaxLink {
		x.done(publish("x", "", "b"))
	}
	x.refused(publish("x", "", "b"), api.ErrSpace)
	x.done(publish("y", "", "b"))
	wantErr(t, "Sent", x.sent(2, 1), api.OK)
	wantAnswers(t, "Do", x.do(publish("x", "", "b")), confirmed(4, 1, api.MaxLink+2))
	x.refused(publish("x", "", "b"), api.ErrSpace)
}

func TestPublishAtTheLastNumbers(t *testing.T) {
	x := from(t, state.Parts{Seq: top - 2, Exchanges: []api.Exchange{{Name: "x", Kind: api.Fanout}}})
	wantAnswers(t, "the last but one", x.do(publish("x", "", "")), confirmed(4, 1, top-1))
	x.refused(publish("y", "", ""), api.ErrMissing)
	wantAnswers(t, "the last one", x.do(publish("x", "", "")), confirmed(4, 1, top))
	x.refused(publish("x", "", ""), api.ErrOver)
	// That there is no number is told ahead of all that may be wrong with the message.
	x.refused(publish("y", "", ""), api.ErrOver)
	x.refused(publish("Y", "..", strings.Repeat("b", 201)), api.ErrOver)
}

// TestPublishOfAnotherSite: the vault knows the site's state, and refuses what would be of another one.
func TestPublishOfAnotherSite(t *testing.T) {
	for site := 2; site <= api.MaxSites; site++ {
		b := New(opened(t, store.New(10000)), site)
		b.Do(exchange("x", api.Fanout, true))
		wantErr(t, "Do", b.Do(publish("x", "", "")), api.OK)
		wantAnswers(t, "Answers", b.Answers(), said(2, api.OK), said(4, api.ErrInput))
		wantSame(t, "Seq", b.State().Parts().Seq, 0)
	}
	v, err := vault.Open(store.New(10000), 2, two(), rare())
	wantErr(t, "Open", err, api.OK)
	b := New(v, 2)
	b.Do(exchange("x", api.Fanout, true))
	b.Do(publish("x", "", ""))
	wantAnswers(t, "Answers", b.Answers(), said(2, api.OK), confirmed(4, 2, 1))
}

// P18.1: consume, cancel

func TestConsume(t *testing.T) {
	x := easy(t)
	x.done(queue("q", 5), queue("r", 5))
	x.done(consume(1, "q", 1), consume(1000, "r", 100), consume(7, "q", 2))
	wantSame(t, "Clients", fmt.Sprint(x.b.Clients()), "[1 7 1000]")
	for _, client := range strange {
		x.refused(consume(client, "q", 1), api.ErrInput)
		x.refused(consume(client, "s", 1), api.ErrMissing)
	}
	for _, n := range []int{0, -1, 101, math.MinInt, math.MaxInt} {
		x.refused(consume(8, "q", n), api.ErrInput)
		x.refused(consume(7, "q", n), api.ErrInput)
		x.refused(consume(8, "s", n), api.ErrMissing)
	}
	for _, name := range append(noNames(), "s") {
		x.refused(consume(8, name, 1), api.ErrMissing)
		x.refused(consume(7, name, 0), api.ErrMissing)
	}
	x.refused(consume(7, "r", 1), api.ErrTaken)
	for i := range 29 {
		x.done(consume(100+i, "q", 1))
	}
	x.refused(consume(8, "q", 1), api.ErrLimit)
	x.refused(consume(7, "q", 1), api.ErrTaken)
	x.done(cancel(100), consume(8, "q", 1))
}

func TestConsumeGivesAtOnce(t *testing.T) {
	x := easy(t)
	x.done(tables("q")...)
	x.done(publish("x", "", "a"), publish("x", "", "b"), publish("x", "", "c"))
	given := x.done(consume(7, "q", 2))
	wantAnswers(t, "Consume", given, item(7, "q", 1, own(1, "a"), false), item(7, "q", 2, own(2, "b"), false))
	given = x.done(consume(8, "q", 100))
	wantAnswers(t, "Consume", given, item(8, "q", 3, own(3, "c"), false))
}

func TestCancelGivesToAnotherOneMarked(t *testing.T) {
	x := easy(t)
	x.done(tables("q", "r")...)
	x.done(consume(7, "q", 3), publish("x", "", "a"), publish("x", "", "b"), publish("x", "", "c"), ack(7, 2), consume(8, "q", 1))
	given := x.done(cancel(7))
	wantAnswers(t, "Cancel", given, item(8, "q", 1, own(1, "a"), true))
	x.wantQueue("q", []uint64{3}, []uint64{1})
	wantSame(t, "Clients", fmt.Sprint(x.b.Clients()), "[8]")
	x.refused(cancel(7), api.ErrMissing)
	given = x.done(ack(8, 1))
	wantAnswers(t, "Ack", given, item(8, "q", 3, own(3, "c"), true))
	x.done(cancel(8))
	x.wantQueue("q", []uint64{3}, nil)
	x.wantQueue("r", []uint64{1, 2, 3}, nil)
}

func TestCancelOfOneThatHoldsNothing(t *testing.T) {
	x := easy(t)
	x.done(queue("q", 5), consume(7, "q", 1))
	before := still.Bytes(x.b.State())
	x.done(cancel(7))
	wantSame(t, "is it the same state", slices.Equal(before, still.Bytes(x.b.State())), true)
	for _, client := range append([]int{7, 1}, strange...) {
		x.refused(cancel(client), api.ErrMissing)
	}
}

// TestCancelIsOneRecord: behind a failure all of what was held is back, or nothing of it. The plain broker's store has the same bytes; here it is seen by the count of records.
func TestCancelIsOneRecord(t *testing.T) {
	x := easy(t)
	x.done(tables("q")...)
	x.done(consume(7, "q", 100))
	for range 100 {
		x.done(publish("x", "", "b"))
	}
	before := records(t, x)
	x.done(cancel(7))
	wantSame(t, "records", records(t, x)-before, 1)
}

// records is how many the log has. Both stores are asked, as that is counted by them.
func records(t *testing.T, x *pair) int {
	t.Helper()
	count := 0
	x.both(func(s *store.Store) {
		_, _, l, err := ledger.Open(s, 1<<20)
		wantErr(t, "ledger's Open", err, api.OK)
		count = len(l)
	})
	return count
}

// P18.1: ack, back

func TestAckAndBack(t *testing.T) {
	x := easy(t)
	x.done(tables("q", "r")...)
	x.done(consume(7, "q", 2), consume(8, "r", 1), publish("x", "", "a"), publish("x", "", "b"), publish("x", "", "c"))
	wantAnswers(t, "Ack", x.done(ack(7, 1)), item(7, "q", 3, own(3, "c"), false))
	x.wantQueue("q", nil, []uint64{2, 3})
	x.refused(ack(7, 1), api.ErrStale)
	x.refused(back(7, 1), api.ErrStale)
	wantAnswers(t, "Back", x.done(back(7, 2)), item(7, "q", 2, own(2, "b"), true))
	wantAnswers(t, "Back", x.done(back(7, 2)), item(7, "q", 2, own(2, "b"), true))
	for _, settle := range []func(int, uint64) api.Command{ack, back} {
		for _, tag := range []uint64{0, 1, 4, top} {
			x.refused(settle(7, tag), api.ErrStale)
		}
		x.refused(settle(8, 2), api.ErrStale)
		for _, client := range append([]int{9}, strange...) {
			x.refused(settle(client, 2), api.ErrMissing)
			x.refused(settle(client, 0), api.ErrMissing)
		}
	}
	x.done(ack(7, 2), ack(7, 3))
	x.wantQueue("q", nil, nil)
	wantAnswers(t, "Ack", x.done(ack(8, 1)), item(8, "r", 2, own(2, "b"), false))
}

func TestBackGoesToTheNextOne(t *testing.T) {
	x := easy(t)
	x.done(tables("q")...)
	x.done(consume(7, "q", 1), consume(8, "q", 1), publish("x", "", "a"))
	wantAnswers(t, "Back", x.done(back(7, 1)), item(8, "q", 1, own(1, "a"), true))
	x.refused(ack(7, 1), api.ErrStale)
	x.done(ack(8, 1))
}

// P18.1: it gives

func TestGivesInTurn(t *testing.T) {
	x := easy(t)
	x.done(tables("q")...)
	x.done(consume(9, "q", 2), consume(3, "q", 1), consume(5, "q", 2))
	var who []int
	for i := range 7 {
		for _, a := range x.done(publish("x", "", fmt.Sprint(i))) {
			who = append(who, a.Client)
		}
	}
	wantSame(t, "who", fmt.Sprint(who), "[9 3 5 9 5]")
	x.wantQueue("q", []uint64{6, 7}, []uint64{1, 2, 3, 4, 5})
	wantAnswers(t, "Ack", x.done(ack(3, 2)), item(3, "q", 6, own(6, "5"), false))
	wantAnswers(t, "Ack", x.done(ack(9, 4)), item(9, "q", 7, own(7, "6"), false))
	wantAnswers(t, "Ack", x.done(ack(9, 1)))
}

func TestGivesByTheQueuesNames(t *testing.T) {
	x := easy(t)
	x.done(tables("b", "a", "c-", "c")...)
	x.done(consume(1, "c-", 1), consume(2, "b", 1), consume(3, "c", 1), consume(4, "a", 1))
	m := own(1, "m")
	wantAnswers(t, "Publish", x.done(publish("x", "", "m")), item(4, "a", 1, m, false), item(2, "b", 1, m, false), item(3, "c", 1, m, false), item(1, "c-", 1, m, false))
}

func TestGivesAsManyAsMayBeHeld(t *testing.T) {
	for _, n := range []int{1, 2, 99, 100} {
		x := easy(t)
		x.done(tables("q")...)
		for range 101 {
			x.done(publish("x", "", "m"))
		}
		given := x.done(consume(7, "q", n))
		wantSame(t, "given", len(given), n)
		for i, a := range given {
			wantSame(t, "Tag", a.Item.Tag, uint64(i+1))
		}
	}
}

// TestGivesByTags: the queue's order is that of the tags, whatever came back.
func TestGivesByTags(t *testing.T) {
	x := easy(t)
	x.done(tables("q")...)
	for range 6 {
		x.done(publish("x", "", "m"))
	}
	x.done(consume(7, "q", 4), ack(7, 2), back(7, 1))
	x.wantQueue("q", []uint64{6}, []uint64{1, 3, 4, 5})
	given := x.done(cancel(7))
	wantAnswers(t, "Cancel", given)
	given = x.done(consume(8, "q", 100))
	m := own(0, "m")
	var want []api.Answer
	for _, tag := range []uint64{1, 3, 4, 5, 6} {
		m.Ident.Seq = tag
		want = append(want, item(8, "q", tag, m, tag != 6))
	}
	wantAnswers(t, "Consume", given, want...)
}

// P18.2: Enter

func TestEnter(t *testing.T) {
	x := easy(t)
	x.done(tables("q", "r")...)
	x.done(consume(7, "q", 1))
	m := message(2, 5, 1, "x", "k", "b")
	wantErr(t, "Enter", x.enter(m), api.OK)
	wantAnswers(t, "Enter", x.told("Enter"), item(7, "q", 1, m, false))
	wantSame(t, "Pending", x.v.Pending(), 0)
	x.wantQueue("r", []uint64{1}, nil)
	wantErr(t, "Enter twice", x.enter(m), api.ErrTaken)
	wantAnswers(t, "Enter twice", x.told("Enter"))
	wantErr(t, "to no exchange", x.enter(message(2, 6, 1, "nobody", "", "")), api.OK)
	wantSame(t, "Has", x.b.State().Has(api.Ident{Origin: 2, Seq: 6}), true)
	wantErr(t, "of this site", x.enter(message(1, 1, 0, "x", "", "b")), api.OK)
	wantAnswers(t, "of this site", x.told("Enter"))
	wantAnswers(t, "Publish", x.do(publish("x", "", "b")), confirmed(4, 1, 2))
	want := x.b.State()
	x.both(func(s *store.Store) { s.Fail(-1) })
	x.both((*store.Store).Power)
	x.open()
	want.Apply(api.Act{Kind: api.ActBoot})
	wantState(t, "behind a failure", x.b.State(), want)
	wantErr(t, "Enter behind a failure", x.enter(m), api.ErrTaken)
}

func TestEnterIsRefused(t *testing.T) {
	x := easy(t)
	x.done(queue("q", 1), exchange("x", api.Fanout, false), binding("x", "q", ""), publish("x", "", "a"))
	for err, l := range map[api.Errno][]api.Message{
		api.ErrInput:   {{}, message(0, 1, 1, "x", "", ""), message(9, 1, 1, "x", "", ""), message(2, 0, 1, "x", "", ""), message(2, 1, 0, "x", "", ""), message(2, 1, 2, "x", "", ""), message(2, 1, 1, "X", "", ""), message(2, 1, 1, "x", "..", ""), message(2, 1, 1, "x", "", strings.Repeat("b", 201)), message(3, 1, 1, "x", "", ""), message(1, 2, 1, "x", "", "")},
		api.ErrStale:   {message(1, 1, 0, "x", "", ""), message(1, 3, 0, "x", "", "")},
		api.ErrMissing: {message(1, 2, 0, "y", "", "")},
		api.ErrSpace:   {message(2, 1, 1, "x", "", ""), message(1, 2, 0, "x", "", "")},
	} {
		for _, m := range l {
			wantErr(t, fmt.Sprintf("Enter(%+v)", m), x.enter(m), err)
			wantAnswers(t, "Enter", x.told("Enter"))
		}
	}
}

// TestWhatIsRefusedNeitherGivesNorFlushes: of Enter and Sent, other than of Do.
func TestWhatIsRefusedNeitherGivesNorFlushes(t *testing.T) {
	x := easy(t)
	x.done(tables("q")...)
	x.done(consume(7, "q", 5))
	x.beside(api.Act{Kind: api.ActEnter, Message: own(1, "a")})
	wantErr(t, "Enter", x.enter(message(2, 1, 0, "x", "", "")), api.ErrInput)
	wantErr(t, "Sent", x.sent(3, 1), api.ErrMissing)
	wantSame(t, "Pending", x.v.Pending(), 1)
	wantAnswers(t, "Answers", x.told("nothing"))
	x.wantQueue("q", []uint64{1}, nil)
	wantErr(t, "Enter", x.enter(message(2, 1, 1, "x", "", "b")), api.OK)
	wantAnswers(t, "Enter", x.told("Enter"), item(7, "q", 1, own(1, "a"), false), item(7, "q", 2, message(2, 1, 1, "x", "", "b"), false))
	wantSame(t, "Pending", x.v.Pending(), 0)
}

// P18.2: Sent

func TestSent(t *testing.T) {
	x := easy(t)
	x.done(exchange("x", api.Fanout, true))
	for range 5 {
		x.done(publish("x", "", "b"))
	}
	wantErr(t, "Sent", x.sent(2, 2), api.OK)
	wantSame(t, "Pending", x.v.Pending(), 0)
	wantErr(t, "more than wait", x.sent(2, 4), api.ErrStale)
	wantErr(t, "to itself", x.sent(1, 1), api.ErrMissing)
	wantErr(t, "to no site", x.sent(8, 1), api.ErrMissing)
	for _, to := range []int{0, -1, 9, math.MinInt, math.MaxInt} {
		wantErr(t, "to none", x.sent(to, 1), api.ErrInput)
	}
	for _, n := range []int{0, -1, api.MaxLink + 1, math.MinInt, math.MaxInt} {
		wantErr(t, "none", x.sent(2, n), api.ErrInput)
		wantErr(t, "none, to no site", x.sent(8, n), api.ErrInput)
	}
	wantSame(t, "what waits", len(x.b.State().Link(2)), 3)
	wantAnswers(t, "Answers", x.told("Sent"))
	x.both(func(s *store.Store) { s.Fail(-1) })
	x.both((*store.Store).Power)
	x.open()
	wantSame(t, "what waits behind a failure", len(x.b.State().Link(2)), 3)
	wantErr(t, "Sent", x.sent(2, 3), api.OK)
	wantErr(t, "Sent", x.sent(2, 1), api.ErrStale)
}

func TestSentGivesNothing(t *testing.T) {
	x := easy(t)
	x.done(tables("q")...)
	x.done(exchange("y", api.Fanout, true), publish("y", "", "a"), consume(7, "q", 1))
	x.beside(api.Act{Kind: api.ActEnter, Message: own(2, "b")})
	wantErr(t, "Sent", x.sent(2, 1), api.OK)
	wantAnswers(t, "Sent", x.told("Sent"))
	wantSame(t, "Pending", x.v.Pending(), 0)
	x.wantQueue("q", []uint64{1}, nil)
}

// P18.2: Answers, State, Clients, On

func TestAnswersGather(t *testing.T) {
	b := New(opened(t, store.New(50000)), 1)
	wantAnswers(t, "at first", b.Answers())
	b.Do(queue("q", 1))
	b.Do(queue("q", 2))
	b.Enter(message(2, 1, 1, "x", "", ""))
	b.Do(cancel(7))
	wantAnswers(t, "Answers", b.Answers(), said(1, api.OK), said(1, api.ErrKind), said(7, api.ErrMissing))
	wantAnswers(t, "again", b.Answers())
	b.Do(cancel(8))
	wantAnswers(t, "since", b.Answers(), said(8, api.ErrMissing))
}

func TestStateIsACopy(t *testing.T) {
	x := easy(t)
	x.done(tables("q")...)
	s := x.b.State()
	s.Apply(api.Act{Kind: api.ActNoQueue, Name: "q"})
	wantState(t, "State", x.b.State(), x.p.State())
	x.done(publish("x", "", "a"))
	x.wantQueue("q", []uint64{1}, nil)
}

func TestWithoutPower(t *testing.T) {
	x := busy(t)
	x.try(publish("x", "", "d"))
	x.try(cancel(99))
	want := x.b.State()
	x.both(func(s *store.Store) { s.Fail(0) })
	for range 2 {
		wantSame(t, "On", x.b.On(), false)
		for _, c := range append(each(), api.Command{}) {
			wantErr(t, "Do", x.try(c), api.ErrDark)
		}
		wantErr(t, "Enter", x.enter(message(2, 1, 1, "x", "", "")), api.ErrDark)
		wantErr(t, "Enter of none", x.enter(api.Message{}), api.ErrDark)
		wantErr(t, "Sent", x.sent(2, 1), api.ErrDark)
		wantErr(t, "Sent of none", x.sent(0, 0), api.ErrDark)
		wantState(t, "State", x.b.State(), want)
		wantSame(t, "Clients", fmt.Sprint(x.b.Clients()), "[7]")
	}
	// What was told ahead of it is told.
	wantAnswers(t, "Answers", x.told("without power"), confirmed(4, 1, 4), said(99, api.ErrMissing))
}

func TestUnmadeBrokers(t *testing.T) {
	zero := &Broker{}
	for what, b := range map[string]*Broker{"nil": nil, "the zero value": zero, "of a dark vault": New(nil, 1)} {
		for range 2 {
			for _, c := range append(each(), api.Command{}) {
				wantErr(t, what+": Do", b.Do(c), api.ErrUnmade)
			}
			wantErr(t, what+": Enter", b.Enter(message(2, 1, 1, "x", "", "")), api.ErrUnmade)
			wantErr(t, what+": Enter of none", b.Enter(api.Message{}), api.ErrUnmade)
			wantErr(t, what+": Sent", b.Sent(2, 1), api.ErrUnmade)
			wantErr(t, what+": Sent of none", b.Sent(-1, -1), api.ErrUnmade)
			if b.Answers() != nil || b.State() != nil || b.Clients() != nil || b.On() {
				t.Errorf("%s: it tells something", what)
			}
		}
	}
	if !reflect.DeepEqual(zero, &Broker{}) {
		t.Errorf("the zero value has changed: %v", zero)
	}
}

// A Flush with an error

func TestNothingIsToldOfWhatIsNotSure(t *testing.T) {
	for _, c := range append(each(), api.Command{}) {
		for _, keep := range []int{-1, 0, 20, math.MaxInt} {
			x := busy(t)
			x.done(consume(8, "r", 2))
			x.try(cancel(99))
			x.beside(api.Act{Kind: api.ActBoot}) // So that there is something to flush, whatever the command is.
			x.both(func(s *store.Store) { s.Plan(1, keep) })
			x.what = fmt.Sprintf("%+v, keep %d", c, keep)
			if got := x.b.Do(c); got != api.ErrDark {
				t.Fatalf("%s: %v", x.what, got)
			}
			wantSame(t, "On", x.b.On(), false)
			wantAnswers(t, x.what, x.b.Answers(), said(99, api.ErrMissing))
			x.s.Power()
			wantSame(t, "On, with power", x.b.On(), false)
			wantErr(t, "Do, with power", x.b.Do(c), api.ErrDark)
			wantErr(t, "Enter, with power", x.b.Enter(message(2, 1, 1, "x", "", "")), api.ErrDark)
			wantErr(t, "Sent, with power", x.b.Sent(2, 1), api.ErrDark)
			wantAnswers(t, x.what, x.b.Answers())
		}
	}
}

func TestAStoreThatIsFull(t *testing.T) {
	for _, s := range []api.Settings{rare(), set(64, 1000), set(64, 5), set(64, 1)} {
		x := newPair(t, fmt.Sprintf("%+v", s), 3000, 1, two(), s)
		x.done(tables("q")...)
		x.done(consume(7, "q", 3), publish("x", "", "a"))
		err, last := api.OK, uint64(1)
		for range 100 {
			if err = x.try(publish("x", "", strings.Repeat("b", 200))); err != api.OK {
				break
			}
			last++
		}
		wantErr(t, x.what, err, api.ErrSpace)
		wantSame(t, "On", x.b.On(), false)
		wantErr(t, "Do", x.try(cancel(7)), api.ErrDark)
		told := x.told("what was told ahead of it")
		var confirms uint64
		for _, a := range told {
			if a.Kind == api.SaidConfirm {
				confirms++
			}
		}
		wantSame(t, "confirmed", confirms, last-1)
	}
}

func TestEnterAndSentThatAreNotSure(t *testing.T) {
	x := easy(t)
	x.done(tables("q")...)
	x.done(exchange("y", api.Fanout, true), publish("y", "", "a"), consume(7, "q", 1))
	x.both(func(s *store.Store) { s.Plan(1, 0) })
	wantErr(t, "Enter", x.enter(message(2, 1, 1, "x", "", "")), api.ErrDark)
	wantAnswers(t, "Enter", x.told("Enter"))
	x.both((*store.Store).Power)
	wantErr(t, "Open", x.open(), api.OK)
	wantAnswers(t, "opened anew", x.told("Open"))
	wantSame(t, "Has", x.b.State().Has(api.Ident{Origin: 2, Seq: 1}), false)
	x.both(func(s *store.Store) { s.Plan(1, 0) })
	wantErr(t, "Sent", x.sent(2, 1), api.ErrDark)
	x.both((*store.Store).Power)
	wantErr(t, "Open", x.open(), api.OK)
	wantSame(t, "what waits", len(x.b.State().Link(2)), 1)
}

// P18.3

// life is what clients know of a site, over all its brokers: from answers alone.
type life struct {
	t     *testing.T
	what  string
	seqs  uint64          // all up to this one are confirmed
	acked map[uint64]bool // the Seqs of those that were acknowledged
	held  map[uint64]uint64
	given map[uint64]bool
}

func newLife(t *testing.T, what string) *life {
	return &life{t: t, what: what, acked: map[uint64]bool{}, held: map[uint64]uint64{}, given: map[uint64]bool{}}
}

// hear takes what client 7 is told behind a command. All items are of queue q.
func (f *life) hear(c api.Command, told []api.Answer) {
	f.t.Helper()
	for _, a := range told {
		switch a.Kind {
		case api.SaidConfirm:
			wantSame(f.t, f.what+": the confirmed Seq", a.Ident.Seq, f.seqs+1)
			f.seqs++
		case api.SaidItem:
			seq := a.Item.Message.Ident.Seq
			if f.acked[seq] {
				f.t.Fatalf("%s: %d is given again, but it was acknowledged", f.what, seq)
			}
			wantSame(f.t, fmt.Sprintf("%s: is %d marked", f.what, seq), a.Item.Again, f.given[seq])
			f.held[a.Item.Tag], f.given[seq] = seq, true
		case api.SaidDone:
			if a.Err == api.OK && c.Kind == api.CmdAck {
				f.acked[f.held[c.Tag]] = true
			}
		}
	}
}

// look holds what is there behind a failure against what was told. Of the command that failed nothing is known: it may have been an ack, or a give.
func (f *life) look(s *state.State, failed api.Command) {
	f.t.Helper()
	p := s.Parts()
	if p.Seq < f.seqs || p.Seq > f.seqs+1 || p.Seq > f.seqs && failed.Kind != api.CmdPublish {
		f.t.Fatalf("%s: Seq is %d, confirmed %d", f.what, p.Seq, f.seqs)
	}
	f.seqs = p.Seq
	q, _ := s.Queue("q")
	wantSame(f.t, f.what+": out", len(q.Out), 0)
	there := map[uint64]bool{}
	for _, i := range q.Ready {
		seq := i.Message.Ident.Seq
		if there[seq] || f.acked[seq] {
			f.t.Fatalf("%s: %d is there twice, or though it was acknowledged", f.what, seq)
		}
		there[seq] = true
		if f.given[seq] && !i.Again {
			f.t.Fatalf("%s: %d was given, and is not marked", f.what, seq)
		}
		// Given in the command that failed, perhaps.
		f.given[seq] = i.Again
	}
	for seq := uint64(1); seq <= f.seqs; seq++ {
		if !s.Has(api.Ident{Origin: 1, Seq: seq}) {
			f.t.Fatalf("%s: %d was confirmed, and was not seen", f.what, seq)
		}
		if f.acked[seq] || there[seq] {
			continue
		}
		if failed.Kind != api.CmdAck || f.held[failed.Tag] != seq {
			f.t.Fatalf("%s: %d is lost", f.what, seq)
		}
		f.acked[seq] = true
	}
	clear(f.held)
}

// script is what client 7 does, and others do beside it.
func script() []api.Command {
	l := []api.Command{consume(7, "q", 2)}
	for i := range 6 {
		l = append(l, publish("x", "", strings.Repeat("b", 10*i)))
	}
	return append(l, ack(7, 1), back(7, 2), cancel(7), publish("x", "", "g"), consume(7, "q", 3), ack(7, 3), queue("r", 3), back(7, 2), ack(7, 4), publish("x", "", "h"))
}

// TestEachFailure: whichever call of the store fails, and whatever is kept then.
func TestEachFailure(t *testing.T) {
	for _, x := range []api.Settings{rare(), set(64, 1), set(64, 3), set(100, 7)} {
		for _, keep := range []int{-1, 0, 13, 40, math.MaxInt} {
			for n := 1; failsAt(t, fmt.Sprintf("%+v, call %d, keep %d", x, n, keep), x, n, keep); n++ {
			}
		}
	}
}

// failsAt does the script with the n-th call of the store failing, and looks at what is left; then all else is done to its end. Did one fail?
func failsAt(t *testing.T, what string, set api.Settings, n, keep int) bool {
	t.Helper()
	x := newPair(t, what, 100000, 1, two(), set)
	x.done(tables("q")...)
	f := newLife(t, what)
	x.both(func(s *store.Store) { s.Plan(n, keep) })
	fell := false
	for _, c := range script() {
		err := x.try(c)
		f.hear(c, x.told("Answers"))
		if err == api.OK {
			continue
		}
		wantErr(t, what, err, api.ErrDark)
		wantSame(t, what+": it falls once", fell, false)
		fell = true
		x.both((*store.Store).Power)
		wantErr(t, what, x.open(), api.OK)
		f.look(x.b.State(), c)
		wantSame(t, what+": Clients", len(x.b.Clients()), 0)
		again := consume(7, "q", 2)
		f.hear(again, x.do(again))
	}
	// What was planned and did not come is not to come any more.
	x.both((*store.Store).Power)
	drain(x, f)
	return fell
}

// drain: client 7 cancels, and takes and acknowledges all that there is. All that was confirmed was acknowledged then.
func drain(x *pair, f *life) {
	x.t.Helper()
	for _, c := range []api.Command{cancel(7), consume(7, "q", 100)} {
		f.hear(c, x.do(c))
	}
	q, _ := x.b.State().Queue("q")
	wantSame(x.t, x.what+": ready", len(q.Ready), 0)
	for _, tag := range tags(q.Out) {
		f.hear(ack(7, tag), x.do(ack(7, tag)))
	}
	x.wantQueue("q", nil, nil)
	for seq := uint64(1); seq <= f.seqs; seq++ {
		wantSame(x.t, fmt.Sprintf("%s: was %d acknowledged", x.what, seq), f.acked[seq], true)
	}
	wantSame(x.t, x.what+": Seq", x.b.State().Parts().Seq, f.seqs)
}

// TestManyLives: many failures, one behind the other, some while it is opened.
func TestManyLives(t *testing.T) {
	r := rand.New(rand.NewSource(1))
	falls := 0
	for n := range 60 {
		x := newPair(t, fmt.Sprint("row ", n), 1<<20, 1, two(), []api.Settings{rare(), set(64, 1), set(64, 5), set(300, 20)}[r.Intn(4)])
		x.done(tables("q")...)
		f := newLife(t, x.what)
		for range 8 {
			calls, keep := 1+r.Intn(60), r.Intn(80)-2
			x.both(func(s *store.Store) { s.Plan(calls, keep) })
			for range 40 {
				tag := uint64(r.Intn(30))
				if q, _ := x.b.State().Queue("q"); len(q.Out) > 0 {
					tag = q.Out[r.Intn(len(q.Out))].Tag
				}
				c := []api.Command{publish("x", "", strings.Repeat("b", r.Intn(50))), publish("x", "", ""), ack(7, tag), ack(7, tag), back(7, tag), cancel(7), consume(7, "q", 1+r.Intn(5)), consume(7, "q", 3)}[r.Intn(8)]
				err := x.try(c)
				f.hear(c, x.told("Answers"))
				if err == api.OK {
					continue
				}
				falls++
				x.both((*store.Store).Power)
				if r.Intn(3) == 0 {
					x.both(func(s *store.Store) { s.Plan(1+keep%3, keep) })
					x.open()
					x.both((*store.Store).Power)
				}
				wantErr(t, x.what, x.open(), api.OK)
				f.look(x.b.State(), c)
				break
			}
		}
		x.both((*store.Store).Power)
		for range 10 {
			again := consume(7, "q", 100)
			x.do(cancel(7))
			f.hear(again, x.do(again))
			q, _ := x.b.State().Queue("q")
			for _, tag := range tags(q.Out) {
				f.hear(ack(7, tag), x.do(ack(7, tag)))
			}
		}
		drain(x, f)
	}
	if falls < 200 {
		t.Errorf("only %d falls", falls)
	}
}

func TestGivenAgainBehindAFailure(t *testing.T) {
	x := easy(t)
	x.done(tables("q")...)
	x.done(consume(7, "q", 2), consume(8, "q", 1))
	for _, body := range []string{"a", "b", "c", "d"} {
		x.done(publish("x", "", body))
	}
	x.done(ack(8, 2))
	x.both(func(s *store.Store) { s.Fail(0) })
	x.both((*store.Store).Power)
	x.open()
	wantSame(t, "Clients", len(x.b.Clients()), 0)
	x.wantQueue("q", []uint64{1, 3, 4}, nil)
	x.refused(ack(7, 1), api.ErrMissing)
	given := x.done(consume(9, "q", 5))
	wantAnswers(t, "Consume", given, item(9, "q", 1, own(1, "a"), true), item(9, "q", 3, own(3, "c"), true), item(9, "q", 4, own(4, "d"), true))
	wantAnswers(t, "Publish", x.do(publish("x", "", "e")), confirmed(4, 1, 5), item(9, "q", 5, own(5, "e"), false))
}

// Whoever else uses the vault

func TestGivingEndsWhenTheLedgerIsFull(t *testing.T) {
	x := easy(t)
	x.done(tables("q")...)
	for range 4 {
		x.done(publish("x", "", "a"))
	}
	for range 998 {
		x.beside(api.Act{Kind: api.ActBoot})
	}
	given := x.done(consume(7, "q", 3))
	wantSame(t, "given", len(given), 2)
	given = x.done(cancel(7))
	wantSame(t, "given", len(given), 0)
	for range 1000 {
		x.beside(api.Act{Kind: api.ActBoot})
	}
	given = x.done(consume(7, "q", 3))
	wantSame(t, "given", len(given), 0)
	x.wantQueue("q", []uint64{1, 2, 3, 4}, nil)
	told := x.do(cancel(99))
	wantSame(t, "given later", len(told), 4)
	for range 1000 {
		x.beside(api.Act{Kind: api.ActBoot})
	}
	told = x.do(publish("x", "", "b"))
	wantAnswers(t, "Publish", told, said(4, api.ErrLimit))
}

func TestAQueueThatIsNotDroppedKeepsItsClients(t *testing.T) {
	x := easy(t)
	x.done(tables("q")...)
	x.done(consume(7, "q", 2))
	for range 1000 {
		x.beside(api.Act{Kind: api.ActBoot})
	}
	x.refused(noQueue("q"), api.ErrLimit)
	wantSame(t, "Clients", fmt.Sprint(x.b.Clients()), "[7]")
	wantAnswers(t, "Publish", x.done(publish("x", "", "a")), item(7, "q", 1, own(1, "a"), false))
}

// TestAnItemThatSomebodyElseTookBack: no two are told to hold one item.
func TestAnItemThatSomebodyElseTookBack(t *testing.T) {
	v := opened(t, store.New(1<<20))
	b := New(v, 1)
	for _, c := range append(tables("q"), consume(7, "q", 2), consume(8, "q", 2), publish("x", "", "a")) {
		wantErr(t, "Do", b.Do(c), api.OK)
	}
	b.Answers()
	v.Do(api.Act{Kind: api.ActBoot})
	for range 3 {
		wantErr(t, "Do", b.Do(cancel(99)), api.OK)
		wantAnswers(t, "Do", b.Answers(), said(99, api.ErrMissing))
		q, _ := b.State().Queue("q")
		wantSame(t, "ready", len(q.Ready), 1)
	}
	b.Do(ack(7, 1))
	wantAnswers(t, "Ack", b.Answers(), said(7, api.ErrStale), item(8, "q", 1, own(1, "a"), true))
	b.Do(ack(8, 1))
	wantAnswers(t, "Ack", b.Answers(), said(8, api.OK))
}

func TestTwoBrokersOverAVault(t *testing.T) {
	v := opened(t, store.New(1<<20))
	a, b := New(v, 1), New(v, 1)
	for _, c := range append(tables("q"), consume(7, "q", 1)) {
		a.Do(c)
	}
	b.Do(consume(7, "q", 1))
	b.Do(publish("x", "", "m"))
	wantAnswers(t, "the second one", b.Answers(), said(7, api.OK), confirmed(4, 1, 1), item(7, "q", 1, own(1, "m"), false))
	a.Do(publish("x", "", "n"))
	a.Do(noQueue("q"))
	b.Do(ack(7, 1))
	b.Do(cancel(7))
	wantAnswers(t, "the second one", b.Answers(), said(7, api.ErrMissing), said(7, api.OK))
	wantSame(t, "Clients", len(b.Clients()), 0)
}

// All of it against the chapter's words, done plainly

// someCommand is any, of few names, clients and tags.
func someCommand(r *rand.Rand, s *state.State) api.Command {
	pick := func(l ...string) string { return l[r.Intn(len(l))] }
	q, x, client := pick("a", "b", "c"), pick("x", "x", "y"), 1+r.Intn(6)
	tag := uint64(r.Intn(10))
	if p, _ := s.Queue(q); len(p.Out) > 0 && r.Intn(4) > 0 {
		tag = p.Out[r.Intn(len(p.Out))].Tag
	}
	switch r.Intn(24) {
	case 0, 1:
		return queue(q, 5)
	case 2:
		return exchange(x, api.Topic, x == "y")
	case 3, 4:
		return binding(x, q, pick("#", "k", "*"))
	case 5:
		return []api.Command{noQueue(q), noExchange(x), noBinding(x, q, "k"), queue(q, r.Intn(5)), {Kind: r.Intn(20), Client: client}}[r.Intn(5)]
	case 6, 7, 8:
		return consume(client, q, r.Intn(5))
	case 9:
		return cancel(client)
	case 10, 11, 12, 13, 14, 15:
		return ack(client, tag)
	case 16, 17:
		return back(client, tag)
	}
	return publish(x, pick("k", "k", "k.l", "..", ""), strings.Repeat("b", r.Intn(40)))
}

func TestManyLongRows(t *testing.T) {
	r := rand.New(rand.NewSource(3))
	counts := map[string]int{}
	for n := range 120 {
		x := newPair(t, fmt.Sprint("row ", n), []int{2000, 8000, 1 << 20, 1 << 20}[r.Intn(4)], 1, two(), []api.Settings{rare(), set(64, 1), set(64, 5), set(300, 20)}[r.Intn(4)])
		for _, c := range append(tables("a", "b"), exchange("y", api.Topic, true)) {
			x.try(c)
		}
		for range 150 {
			if x.b == nil || !x.b.On() && r.Intn(2) == 0 {
				x.both((*store.Store).Power)
				if err := x.open(); err != api.OK {
					counts["Open "+err.Error()]++
					break
				}
				continue
			}
			switch k := r.Intn(40); {
			case k == 0:
				n, keep := 1+r.Intn(30), r.Intn(60)-2
				x.both(func(s *store.Store) { s.Plan(n, keep) })
			case k == 1:
				x.both(func(s *store.Store) { s.Fail(n % 7) })
			case k < 5:
				counts["Enter "+x.enter(message(2, uint64(1+r.Intn(30)), 1+r.Intn(10)/9, "x", "k", "b")).Error()]++
			case k < 8:
				counts["Sent "+x.sent(2, 1+r.Intn(3)).Error()]++
			default:
				counts["Do "+x.try(someCommand(r, x.b.State())).Error()]++
			}
			if r.Intn(3) == 0 {
				x.told("Answers")
			}
		}
		x.told("Answers")
		for _, a := range x.all {
			counts[fmt.Sprintf("told %d %v", a.Kind, a.Err)]++
			if a.Item.Again {
				counts["again"]++
			}
		}
	}
	for _, want := range []string{"Do ok", "Do dark", "Do space", "Enter ok", "Enter taken", "Enter input", "Sent ok", "Sent stale", "told 1 ok", "told 1 input", "told 1 missing", "told 1 taken", "told 1 stale", "told 1 space", "told 1 kind", "told 2 ok", "told 3 ok", "again"} {
		if counts[want] == 0 {
			t.Errorf("none of these rows had: %s: %v", want, counts)
		}
	}
	if counts["told 3 ok"] < 1000 || counts["again"] < 100 {
		t.Errorf("few was given: %v", counts)
	}
}

func TestAllShortRows(t *testing.T) {
	few := []api.Command{publish("x", "", "m"), consume(7, "q", 1), consume(8, "q", 2), cancel(7), cancel(8), ack(7, 1), ack(8, 1), back(7, 1), back(8, 2), noQueue("q"), queue("q", 2)}
	var walk func(row []api.Command, left int)
	walk = func(row []api.Command, left int) {
		if left == 0 {
			x := easy(t)
			x.what = fmt.Sprintf("%+v", row)
			for _, c := range append(tables("q"), row...) {
				x.try(c)
			}
			x.told("Answers")
			return
		}
		for _, c := range few {
			walk(append(row[:len(row):len(row)], c), left-1)
		}
	}
	walk([]api.Command{publish("x", "", "m"), consume(7, "q", 1), publish("x", "", "n")}, 3)
}

// R3, R4

func TestWhatIsToldIsNewMemory(t *testing.T) {
	x := busy(t)
	for n := range 6 {
		for range n {
			x.try(cancel(50))
		}
		got, want := x.b.Answers(), slices.Repeat([]api.Answer{said(50, api.ErrMissing)}, n)
		wantAnswers(t, "Answers", got, want...)
		x.try(cancel(50))
		room := got[:cap(got)]
		for i := range room {
			room[i] = api.Answer{Kind: 77}
		}
		wantAnswers(t, "behind a scribble", x.b.Answers(), said(50, api.ErrMissing))
		l := x.b.Clients()
		l[0] = 77
		wantSame(t, "Clients", fmt.Sprint(x.b.Clients()), "[7]")
	}
}

func TestWhatIsToldStays(t *testing.T) {
	x := busy(t)
	x.try(cancel(50))
	got := x.b.Answers()
	room := slices.Clone(got[:cap(got)])
	for _, c := range each() {
		x.try(c)
	}
	wantSame(t, "is it the same", slices.Equal(room, got[:cap(got)]), true)
}

func TestAlwaysTheSame(t *testing.T) {
	play := func() string {
		r := rand.New(rand.NewSource(5))
		s := store.New(1 << 20)
		v, _ := vault.Open(s, 1, two(), set(100, 20))
		b := New(v, 1)
		var all strings.Builder
		for _, c := range append(tables("a", "b", "c"), consume(1, "b", 3)) {
			fmt.Fprintln(&all, b.Do(c))
		}
		for range 200 {
			fmt.Fprintln(&all, b.Do(someCommand(r, b.State())), b.Answers(), b.Clients())
		}
		return all.String() + written(s)
	}
	want := play()
	got := make([]string, 8)
	var group sync.WaitGroup
	for i := range got {
		group.Go(func() { got[i] = play() })
	}
	group.Wait()
	for _, one := range got {
		wantSame(t, "played again", one, want)
	}
}

// A copy by its value was made by no call, and nothing is promised of it but that no call panics.
func TestACopiedBrokerPanicsNowhere(t *testing.T) {
	r := rand.New(rand.NewSource(7))
	x := busy(t)
	other := *x.b
	for range 300 {
		for _, b := range []*Broker{x.b, &other} {
			b.Do(someCommand(r, b.State()))
			b.Enter(message(2, uint64(1+r.Intn(30)), 1, "x", "k", "b"))
			b.Sent(2, 1)
			b.Clients()
			if r.Intn(3) == 0 {
				b.Answers()
			}
		}
	}
}
