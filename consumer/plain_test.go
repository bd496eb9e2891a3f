package consumer

import (
	"fmt"
	"regexp"
	"slices"
	"testing"

	"staith/api"
)

// want is a client that wants messages of a queue, and since which step it is where it is in the line.
type want struct {
	client int
	queue  string
	most   int
	since  int
}

// grip is a tag of a queue that a client holds.
type grip struct {
	client int
	queue  string
	tag    uint64
}

// plain is a desk without a line: who wants something, and who holds what, as it came. It is what a Desk is held against.
type plain struct {
	wants []want
	grips []grip
	step  int
}

// copied is another one, alike.
func (p *plain) copied() *plain {
	return &plain{wants: slices.Clone(p.wants), grips: slices.Clone(p.grips), step: p.step}
}

// of is a client's want, or nil.
func (p *plain) of(client int) *want {
	for i := range p.wants {
		if p.wants[i].client == client {
			return &p.wants[i]
		}
	}
	return nil
}

// tags are those that a client holds, rising.
func (p *plain) tags(client int) []uint64 {
	var l []uint64
	for _, g := range p.grips {
		if g.client == client {
			l = append(l, g.tag)
		}
	}
	slices.Sort(l)
	return l
}

var name = regexp.MustCompile(`\A[a-z0-9_-]{1,20}\z`)

func (p *plain) add(client int, queue string, most int) api.Errno {
	if client < 1 || client > 1000 || !name.MatchString(queue) || most < 1 || most > 100 {
		return api.ErrInput
	}
	if p.of(client) != nil {
		return api.ErrTaken
	}
	if len(p.wants) == 32 {
		return api.ErrLimit
	}
	p.step++
	p.wants = append(p.wants, want{client, queue, most, p.step})
	return api.OK
}

func (p *plain) drop(client int) (Held, api.Errno) {
	w := p.of(client)
	if w == nil {
		return Held{}, api.ErrMissing
	}
	held := Held{w.queue, p.tags(client)}
	p.wants = slices.DeleteFunc(p.wants, func(w want) bool { return w.client == client })
	p.grips = slices.DeleteFunc(p.grips, func(g grip) bool { return g.client == client })
	return held, api.OK
}

func (p *plain) next(queue string) (int, bool) {
	first := want{}
	for _, w := range p.wants {
		if w.queue == queue && len(p.tags(w.client)) < w.most && (first.since == 0 || w.since < first.since) {
			first = w
		}
	}
	return first.client, first.since > 0
}

func (p *plain) took(client int, tag uint64) api.Errno {
	w := p.of(client)
	if w == nil {
		return api.ErrMissing
	}
	if len(p.tags(client)) == w.most {
		return api.ErrLimit
	}
	for _, g := range p.grips {
		if g.queue == w.queue && g.tag == tag {
			return api.ErrTaken
		}
	}
	if tag == 0 {
		return api.ErrInput
	}
	p.step++
	w.since = p.step
	p.grips = append(p.grips, grip{client, w.queue, tag})
	return api.OK
}

func (p *plain) settle(client int, tag uint64) (string, api.Errno) {
	w := p.of(client)
	if w == nil {
		return "", api.ErrMissing
	}
	i := slices.Index(p.grips, grip{client, w.queue, tag})
	if i < 0 {
		return "", api.ErrStale
	}
	p.grips = slices.Delete(p.grips, i, i+1)
	return w.queue, api.OK
}

func (p *plain) hold(client int) (Held, bool) {
	w := p.of(client)
	if w == nil {
		return Held{}, false
	}
	return Held{w.queue, p.tags(client)}, true
}

func (p *plain) forget(queue string) []int {
	var gone []int
	for _, w := range slices.Clone(p.wants) {
		if w.queue == queue {
			p.drop(w.client)
			gone = append(gone, w.client)
		}
	}
	slices.Sort(gone)
	return gone
}

func (p *plain) clients() []int {
	var l []int
	for _, w := range p.wants {
		l = append(l, w.client)
	}
	slices.Sort(l)
	return l
}

// alike: do two tell the same queue and tags?
func alike(a, b Held) bool {
	return a.Queue == b.Queue && slices.Equal(a.Tags, b.Tags)
}

// wantPlain holds all that a desk tells against a plain one: of all clients that want something and of some others, of all queues and of some others.
func wantPlain(t *testing.T, what string, d *Desk, p *plain) {
	t.Helper()
	if got, want := d.Clients(), p.clients(); !slices.Equal(got, want) {
		t.Fatalf("%s: Clients: %v, want %v", what, got, want)
	}
	queues := []string{"a", "b", "", "A", "nobody"}
	for _, w := range p.wants {
		queues = append(queues, w.queue)
	}
	for _, queue := range queues {
		gotClient, got := d.Next(queue)
		if wantClient, want := p.next(queue); gotClient != wantClient || got != want {
			t.Fatalf("%s: Next(%q) of %v: %d %v, want %d %v", what, queue, p, gotClient, got, wantClient, want)
		}
	}
	for _, client := range append(p.clients(), 0, -1, 1, 2, 3, 4, 999, 1000, 1001) {
		gotHeld, got := d.Hold(client)
		if wantHeld, want := p.hold(client); !alike(gotHeld, wantHeld) || got != want {
			t.Fatalf("%s: Hold(%d) of %v: %v %v, want %v %v", what, client, p, gotHeld, got, wantHeld, want)
		}
	}
}

// wantLine takes tags with both desks until nobody may have more: so the whole line is seen. Neither is of use behind it, but as one that is full.
func wantLine(t *testing.T, what string, d *Desk, p *plain, queue string) {
	t.Helper()
	for tag := uint64(1 << 40); ; tag++ {
		gotClient, got := d.Next(queue)
		wantClient, want := p.next(queue)
		if gotClient != wantClient || got != want {
			t.Fatalf("%s: Next(%q) in the line of %v: %d %v, want %d %v", what, queue, p, gotClient, got, wantClient, want)
		}
		if !got {
			return
		}
		do(t, nil, took(gotClient, tag), d, p)
	}
}

// call is one to a desk; what its name does not take is not looked at.
type call struct {
	name   string
	client int
	queue  string
	most   int
	tag    uint64
}

func add(client int, queue string, most int) call {
	return call{name: "Add", client: client, queue: queue, most: most}
}
func drop(client int) call               { return call{name: "Drop", client: client} }
func took(client int, tag uint64) call   { return call{name: "Took", client: client, tag: tag} }
func settle(client int, tag uint64) call { return call{name: "Settle", client: client, tag: tag} }
func forget(queue string) call           { return call{name: "Forget", queue: queue} }

// do makes a call to both desks and holds what they answer against each other.
func do(t *testing.T, row []call, c call, d *Desk, p *plain) {
	t.Helper()
	before := p.copied()
	var got, want string
	switch c.name {
	case "Add":
		got, want = fmt.Sprint(d.Add(c.client, c.queue, c.most)), fmt.Sprint(p.add(c.client, c.queue, c.most))
	case "Drop":
		got, want = fmt.Sprint(d.Drop(c.client)), fmt.Sprint(p.drop(c.client))
	case "Took":
		got, want = fmt.Sprint(d.Took(c.client, c.tag)), fmt.Sprint(p.took(c.client, c.tag))
	case "Settle":
		got, want = fmt.Sprint(d.Settle(c.client, c.tag)), fmt.Sprint(p.settle(c.client, c.tag))
	case "Forget":
		got, want = fmt.Sprint(d.Forget(c.queue)), fmt.Sprint(p.forget(c.queue))
	}
	if got != want {
		t.Fatalf("%v of %v, in the row %v: %s, want %s", c, before, row, got, want)
	}
}

// behind is a desk behind some calls, and the plain one.
func behind(t *testing.T, calls ...call) (*Desk, *plain) {
	t.Helper()
	d, p := New(), &plain{}
	for _, c := range calls {
		do(t, calls, c, d, p)
	}
	return d, p
}

// rows calls each with each row of count calls.
func rows(calls []call, row []call, count int, each func(row []call)) {
	if len(row) == count {
		each(row)
		return
	}
	for _, c := range calls {
		rows(calls, append(row, c), count, each)
	}
}

// random is a number in no plain order.
func random(seed *uint64, below int) int {
	*seed = *seed*6364136223846793005 + 1442695040888963407
	return int((*seed >> 33) % uint64(below))
}
