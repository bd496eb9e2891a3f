package broker

import (
	"bytes"
	"fmt"
	"slices"
	"testing"

	"staith/api"
	"staith/state"
	"staith/still"
	"staith/store"
	"staith/vault"
)

// The chapter's words done plainly, over a vault and a store of its own: there is no desk but two lists, and the state is asked anew for each message that is given.

// want is a client that wants messages of a queue.
type want struct {
	client int
	queue  string
	most   int
}

// grip is a tag of a queue that a client holds.
type grip struct {
	client int
	queue  string
	tag    uint64
}

// plain is a broker. The first one of line is the first one to have something.
type plain struct {
	v     *vault.Vault
	site  int
	line  []want
	grips []grip
	told  []api.Answer
}

func plainNew(v *vault.Vault, site int) *plain {
	if v == nil || !v.On() || site < 1 || site > 8 {
		return nil
	}
	return &plain{v: v, site: site}
}

// wants is where a client stands in the line; -1, if it does not.
func (p *plain) wants(client int) int {
	return slices.IndexFunc(p.line, func(w want) bool { return w.client == client })
}

// holds are the tags that a client holds, rising.
func (p *plain) holds(client int) []uint64 {
	var l []uint64
	for _, g := range p.grips {
		if g.client == client {
			l = append(l, g.tag)
		}
	}
	slices.Sort(l)
	return l
}

// act is the vault's Do, of which only the error counts.
func (p *plain) act(acts ...api.Act) api.Errno {
	_, err := p.v.Do(acts...)
	return err
}

// leave: a client wants and holds nothing any more.
func (p *plain) leave(client int) {
	p.line = slices.DeleteFunc(p.line, func(w want) bool { return w.client == client })
	p.grips = slices.DeleteFunc(p.grips, func(g grip) bool { return g.client == client })
}

func (p *plain) publish(c api.Command) (api.Ident, api.Errno) {
	seq := p.v.State().Parts().Seq
	if seq == 1<<64-1 {
		return api.Ident{}, api.ErrOver
	}
	id := api.Ident{Origin: p.site, Seq: seq + 1}
	return id, p.act(api.Act{Kind: 7, Message: api.Message{Ident: id, Exchange: c.Name, Key: c.Key, Body: c.Body}})
}

func (p *plain) consume(c api.Command) api.Errno {
	if _, is := p.v.State().Queue(c.Name); !is {
		return api.ErrMissing
	}
	if c.Client < 1 || c.Client > 1000 || c.N < 1 || c.N > 100 {
		return api.ErrInput
	}
	if p.wants(c.Client) >= 0 {
		return api.ErrTaken
	}
	if len(p.line) == 32 {
		return api.ErrLimit
	}
	p.line = append(p.line, want{c.Client, c.Name, c.N})
	return api.OK
}

func (p *plain) cancel(c api.Command) api.Errno {
	at := p.wants(c.Client)
	if at < 0 {
		return api.ErrMissing
	}
	var acts []api.Act
	for _, tag := range p.holds(c.Client) {
		acts = append(acts, api.Act{Kind: 10, Name: p.line[at].queue, Tag: tag})
	}
	p.leave(c.Client)
	if len(acts) == 0 {
		return api.OK
	}
	return p.act(acts...)
}

func (p *plain) settle(c api.Command) api.Errno {
	at := p.wants(c.Client)
	if at < 0 {
		return api.ErrMissing
	}
	g := grip{c.Client, p.line[at].queue, c.Tag}
	if !slices.Contains(p.grips, g) {
		return api.ErrStale
	}
	p.grips = slices.DeleteFunc(p.grips, func(other grip) bool { return other == g })
	return p.act(api.Act{Kind: c.Kind - 1, Name: g.queue, Tag: g.tag})
}

func (p *plain) dropQueue(c api.Command) api.Errno {
	err := p.act(api.Act{Kind: 2, Name: c.Name})
	for _, w := range slices.Clone(p.line) {
		if err == api.OK && w.queue == c.Name {
			p.leave(w.client)
		}
	}
	return err
}

// command is what is said of one.
func (p *plain) command(c api.Command) api.Answer {
	err := api.ErrInput
	switch c.Kind {
	case 1:
		err = p.act(api.Act{Kind: 1, Name: c.Name, N: c.N})
	case 2:
		err = p.dropQueue(c)
	case 3:
		err = p.act(api.Act{Kind: 3, Exchange: c.Exchange})
	case 4:
		err = p.act(api.Act{Kind: 4, Name: c.Name})
	case 5, 6:
		err = p.act(api.Act{Kind: c.Kind, Binding: c.Binding})
	case 7:
		var id api.Ident
		if id, err = p.publish(c); err == api.OK {
			return api.Answer{Kind: 2, Client: c.Client, Ident: id}
		}
	case 8:
		err = p.consume(c)
	case 9:
		err = p.cancel(c)
	case 10, 11:
		err = p.settle(c)
	}
	return api.Answer{Kind: 1, Client: c.Client, Err: err}
}

// next is where the one stands that is to have the next one of a queue; -1, if nobody is.
func (p *plain) next(queue string) int {
	return slices.IndexFunc(p.line, func(w want) bool { return w.queue == queue && len(p.holds(w.client)) < w.most })
}

// gives is all that is given now.
func (p *plain) gives() []api.Answer {
	var said []api.Answer
	for _, part := range p.v.State().Parts().Queues {
		for {
			q, _ := p.v.State().Queue(part.Name)
			at := p.next(q.Name)
			if at < 0 || len(q.Ready) == 0 || p.act(api.Act{Kind: 8, Name: q.Name}) != api.OK {
				break
			}
			w := p.line[at]
			p.line = append(slices.Delete(p.line, at, at+1), w)
			p.grips = append(p.grips, grip{w.client, q.Name, q.Ready[0].Tag})
			said = append(said, api.Answer{Kind: 3, Client: w.client, Queue: q.Name, Item: q.Ready[0]})
		}
	}
	return said
}

func (p *plain) check() api.Errno {
	if p == nil {
		return api.ErrUnmade
	}
	if !p.v.On() {
		return api.ErrDark
	}
	return api.OK
}

func (p *plain) flush(said []api.Answer) api.Errno {
	err := p.v.Flush()
	if err == api.OK {
		p.told = append(p.told, said...)
	}
	return err
}

func (p *plain) Do(c api.Command) api.Errno {
	if err := p.check(); err != api.OK {
		return err
	}
	said := []api.Answer{p.command(c)}
	return p.flush(append(said, p.gives()...))
}

func (p *plain) Enter(m api.Message) api.Errno {
	if err := p.check(); err != api.OK {
		return err
	}
	if err := p.act(api.Act{Kind: 7, Message: m}); err != api.OK {
		return err
	}
	return p.flush(p.gives())
}

func (p *plain) Sent(to, n int) api.Errno {
	if err := p.check(); err != api.OK {
		return err
	}
	if err := p.act(api.Act{Kind: 11, To: to, N: n}); err != api.OK {
		return err
	}
	return p.flush(nil)
}

func (p *plain) Answers() []api.Answer {
	if p == nil {
		return nil
	}
	told := p.told
	p.told = nil
	return told
}

func (p *plain) Clients() []int {
	var l []int
	if p != nil {
		for _, w := range p.line {
			l = append(l, w.client)
		}
	}
	slices.Sort(l)
	return l
}

func (p *plain) State() *state.State {
	if p == nil {
		return nil
	}
	return p.v.State()
}

// pair is a broker and a plain one, each on a store of its own, with which the same is done.
type pair struct {
	t    *testing.T
	what string
	site int
	w    api.Topology
	x    api.Settings
	s    *store.Store
	b    *Broker
	v    *vault.Vault
	ps   *store.Store
	p    *plain
	all  []api.Answer // that were told
}

// newPair is one that is opened.
func newPair(t *testing.T, what string, room, site int, w api.Topology, x api.Settings) *pair {
	t.Helper()
	pair := &pair{t: t, what: what, site: site, w: w, x: x, s: store.New(room), ps: store.New(room)}
	pair.open()
	return pair
}

// easy is a pair of site 1 with room enough, and no checkpoint soon.
func easy(t *testing.T) *pair {
	t.Helper()
	return newPair(t, t.Name(), 1<<24, 1, two(), rare())
}

// open makes both anew, over what the stores hold.
func (x *pair) open() api.Errno {
	x.t.Helper()
	v, err := vault.Open(x.s, x.site, x.w, x.x)
	pv, want := vault.Open(x.ps, x.site, x.w, x.x)
	x.v, x.b, x.p = v, New(v, x.site), plainNew(pv, x.site)
	wantSame(x.t, x.what+": is there one", x.b != nil, x.p != nil)
	x.same("Open", err, want)
	return err
}

// same holds the two against each other, but for what they tell.
func (x *pair) same(what string, err, want api.Errno) {
	x.t.Helper()
	what = x.what + ": " + what
	wantErr(x.t, what, err, want)
	wantSame(x.t, what+": On", x.b.On(), x.p.check() == api.OK)
	wantSame(x.t, what+": Clients", fmt.Sprint(x.b.Clients()), fmt.Sprint(x.p.Clients()))
	if written(x.s) != written(x.ps) {
		x.t.Fatalf("%s: the stores differ: %v with %d calls, and %v with %d", what, x.s.Names(), x.s.Count(), x.ps.Names(), x.ps.Count())
	}
	wantState(x.t, what, x.b.State(), x.p.State())
}

// told holds what they tell against each other: it.
func (x *pair) told(what string) []api.Answer {
	x.t.Helper()
	got := x.b.Answers()
	wantAnswers(x.t, x.what+": "+what, got, x.p.Answers()...)
	x.all = append(x.all, got...)
	return got
}

// do is a command to both, of which nothing may be wrong with the broker: what is told.
func (x *pair) do(c api.Command) []api.Answer {
	x.t.Helper()
	wantErr(x.t, fmt.Sprintf("%s: Do(%+v)", x.what, c), x.try(c), api.OK)
	return x.told(fmt.Sprintf("Do(%+v)", c))
}

// done is a command that must be done, or confirmed: what is told behind that.
func (x *pair) done(l ...api.Command) []api.Answer {
	x.t.Helper()
	var told []api.Answer
	for _, c := range l {
		told = x.do(c)
		if len(told) == 0 || told[0].Kind == api.SaidItem || told[0].Err != api.OK {
			x.t.Fatalf("%s: Do(%+v): %+v", x.what, c, told)
		}
	}
	return told[1:]
}

// refused is a command that must be refused with that error, and change nothing.
func (x *pair) refused(c api.Command, err api.Errno) {
	x.t.Helper()
	before, clients := still.Bytes(x.b.State()), x.b.Clients()
	told := x.do(c)
	wantAnswers(x.t, fmt.Sprintf("%s: Do(%+v)", x.what, c), told, said(c.Client, err))
	if !bytes.Equal(before, still.Bytes(x.b.State())) || !slices.Equal(clients, x.b.Clients()) {
		x.t.Fatalf("%s: Do(%+v) was refused, and has changed something", x.what, c)
	}
}

func (x *pair) try(c api.Command) api.Errno {
	x.t.Helper()
	err, want := x.b.Do(c), x.p.Do(c)
	x.same(fmt.Sprintf("Do(%+v)", c), err, want)
	return err
}

func (x *pair) enter(m api.Message) api.Errno {
	x.t.Helper()
	err, want := x.b.Enter(m), x.p.Enter(m)
	x.same(fmt.Sprintf("Enter(%+v)", m), err, want)
	return err
}

func (x *pair) sent(to, n int) api.Errno {
	x.t.Helper()
	err, want := x.b.Sent(to, n), x.p.Sent(to, n)
	x.same(fmt.Sprintf("Sent(%d, %d)", to, n), err, want)
	return err
}

// beside does acts with both vaults, past the brokers.
func (x *pair) beside(acts ...api.Act) {
	x.t.Helper()
	_, err := x.v.Do(acts...)
	wantErr(x.t, x.what+": the vault's Do", err, api.OK)
	wantErr(x.t, x.what+": the vault's Do", x.p.act(acts...), api.OK)
}

// both does something with each store.
func (x *pair) both(do func(s *store.Store)) {
	do(x.s)
	do(x.ps)
}

// written is all that a store holds, and how often it was called.
func written(s *store.Store) string {
	l := []string{fmt.Sprint(s.On(), s.Count())}
	for _, name := range s.Names() {
		b, err := s.Read(name)
		l = append(l, fmt.Sprintf("%s %q %v", name, b, err))
	}
	return fmt.Sprint(l)
}

func wantErr(t *testing.T, what string, got, want api.Errno) {
	t.Helper()
	if got != want {
		t.Fatalf("%s: %v, want %v", what, got, want)
	}
}

func wantSame[T int | uint64 | bool | string](t *testing.T, what string, got, want T) {
	t.Helper()
	if got != want {
		t.Fatalf("%s: %v, want %v", what, got, want)
	}
}

func wantAnswers(t *testing.T, what string, got []api.Answer, want ...api.Answer) {
	t.Helper()
	if !slices.Equal(got, want) {
		t.Fatalf("%s: told\n%+v\nwant\n%+v", what, got, want)
	}
}

// wantState: two are the same in all their bytes, or none is there.
func wantState(t *testing.T, what string, got, want *state.State) {
	t.Helper()
	if (got == nil) != (want == nil) || !bytes.Equal(still.Bytes(got), still.Bytes(want)) {
		t.Fatalf("%s: the state is\n%+v\nwant\n%+v", what, got.Parts(), want.Parts())
	}
}
