package inbox

import (
	"fmt"
	"maps"
	"testing"

	"staith/api"
)

// plain is an inbox told by the chapter's words. What comes has its own number, from 0 on, that does not go around; only what is asked and told is put on the circle. The limits stand here once more, so that others of the program's are seen.
type plain struct {
	size int
	next int
	held map[int]api.Message
}

func newPlain(size int) *plain {
	return &plain{size: size, held: map[int]api.Message{}}
}

// own: the number behind next by so many as num is on the circle.
func (p *plain) own(num uint16) int {
	return p.next + (int(num)-p.next%65536+65536)%65536
}

func (p *plain) take(num uint16, m api.Message) bool {
	n := p.own(num)
	if _, is := p.held[n]; is || n >= p.next+p.size {
		return false
	}
	p.held[n] = m
	return true
}

func (p *plain) head() (api.Message, bool) {
	m, is := p.held[p.next]
	return m, is
}

func (p *plain) pop() bool {
	if _, is := p.held[p.next]; !is {
		return false
	}
	delete(p.held, p.next)
	p.next++
	return true
}

func (p *plain) ack() (uint16, uint64) {
	var set uint64
	for k := range 64 {
		if _, is := p.held[p.next+1+k]; is {
			set += 1 << k
		}
	}
	return uint16(p.next % 65536), set
}

func (p *plain) reset() {
	*p = *newPlain(p.size)
}

func (p *plain) copy() *plain {
	return &plain{p.size, p.next, maps.Clone(p.held)}
}

// copied is an inbox like x, which goes on by itself.
func copied(x *Inbox) *Inbox {
	other := *x
	other.held = maps.Clone(x.held)
	return &other
}

// message is one, told apart from the others by a number.
func message(n int) api.Message {
	return api.Message{Ident: api.Ident{Origin: 1 + n%8, Seq: uint64(n)}, Hop: n % 9, Exchange: "x", Key: fmt.Sprint("k.", n), Body: fmt.Sprint("b", n)}
}

// wantLook holds all that an inbox tells against a plain one.
func wantLook(t *testing.T, what string, x *Inbox, p *plain) {
	t.Helper()
	num, set := p.ack()
	if got := x.Next(); got != num {
		t.Fatalf("%s: Next: %d, want %d; %v", what, got, num, p)
	}
	if n, s := x.Ack(); n != num || s != set {
		t.Fatalf("%s: Ack: %d %#x, want %d %#x; %v", what, n, s, num, set, p)
	}
	m, is := p.head()
	if h, ok := x.Head(); h != m || ok != is {
		t.Fatalf("%s: Head: %v %v, want %v %v; %v", what, h, ok, m, is, p)
	}
	if got := x.Held(); got != len(p.held) {
		t.Fatalf("%s: Held: %d, want %d; %v", what, got, len(p.held), p)
	}
}

// wantPlain is wantLook, and holds which numbers copies of both would take, and what comes out of them.
func wantPlain(t *testing.T, what string, x *Inbox, p *plain) {
	t.Helper()
	wantLook(t, what, x, p)
	for by := -3; by <= p.size+2; by++ {
		num := uint16((p.next + by + 65536) % 65536)
		if got, want := copied(x).Take(num, message(9)), p.copy().take(num, message(9)); got != want {
			t.Fatalf("%s: then Take(%d): %v, want %v; %v", what, num, got, want, p)
		}
	}
	other, q := copied(x), p.copy()
	for range p.size {
		// What is missing comes, so that all comes out that is held.
		num, _ := q.ack()
		other.Take(num, message(7))
		q.take(num, message(7))
		wantLook(t, what+" and on", other, q)
		if got, want := other.Pop(), q.pop(); got != want {
			t.Fatalf("%s: and on: Pop: %v, want %v; %v", what, got, want, q)
		}
	}
	wantLook(t, what+" and on", other, q)
}

// call is one of an inbox, done to a plain one too.
type call struct {
	kind byte // t, p or r
	by   int  // of a number that is to be taken: how far it is from next
	m    api.Message
}

func (c call) String() string {
	switch c.kind {
	case 't':
		return fmt.Sprintf("Take(next %+d, %v)", c.by, c.m.Body)
	case 'p':
		return "Pop()"
	}
	return "Reset()"
}

// do makes a call, and holds what both answer.
func (c call) do(t *testing.T, what string, x *Inbox, p *plain) {
	t.Helper()
	switch c.kind {
	case 't':
		num := uint16((p.next + c.by + 65536) % 65536)
		if got, want := x.Take(num, c.m), p.take(num, c.m); got != want {
			t.Fatalf("%s: %v: %v, want %v; %v", what, c, got, want, p)
		}
	case 'p':
		if got, want := x.Pop(), p.pop(); got != want {
			t.Fatalf("%s: %v: %v, want %v; %v", what, c, got, want, p)
		}
	case 'r':
		x.Reset()
		p.reset()
	}
	wantLook(t, what+c.String(), x, p)
}
