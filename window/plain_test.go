package window

import (
	"fmt"
	"maps"
	"math"
	"slices"
	"testing"
)

// plain is a window told by the chapter's words. What waits is never moved: each has its own number, from 0 on, that does not go around, and place i is the i-th of those that are not done. The limits stand here once more, so that others of the program's are seen.
type plain struct {
	size, timeout int
	done          int
	at            map[int]int // of each that was sent, when it was last
	there         map[int]int // 1 for each that is there
}

func newPlain(size, timeout int) *plain {
	return &plain{size: size, timeout: timeout, at: map[int]int{}, there: map[int]int{}}
}

// num: a place's number on the circle.
func (p *plain) num(i int) uint16 {
	return uint16(((p.done+i)%65536 + 65536) % 65536)
}

func (p *plain) send(have, now int) []int {
	if now < 0 {
		now = 0
	} else if now > 1125899906842624 {
		now = 1125899906842624
	}
	var l []int
	for i := 0; i < have && i < p.size; i++ {
		at, was := p.at[p.done+i]
		if p.there[p.done+i] == 0 && (!was || at+p.timeout <= now) {
			p.at[p.done+i] = now
			l = append(l, i)
		}
	}
	return l
}

func (p *plain) ack(num uint16, set uint64) int {
	for n := 0; n <= p.size; n++ {
		if p.num(n) == num {
			return p.ackPlace(n, set)
		}
	}
	return 0
}

// ackPlace is ack of what is at place n.
func (p *plain) ackPlace(n int, set uint64) int {
	for i := range n {
		if _, was := p.at[p.done+i]; !was {
			return 0
		}
	}
	for k := range 64 {
		if _, was := p.at[p.done+n+1+k]; was && set>>k&1 == 1 {
			p.there[p.done+n+1+k] = 1
		}
	}
	for range n {
		delete(p.at, p.done)
		delete(p.there, p.done)
		p.done++
	}
	return n
}

func (p *plain) open() int {
	count := 0
	for i := range p.size {
		if _, was := p.at[p.done+i]; was && p.there[p.done+i] == 0 {
			count++
		}
	}
	return count
}

func (p *plain) reset() {
	*p = *newPlain(p.size, p.timeout)
}

func (p *plain) copy() *plain {
	return &plain{p.size, p.timeout, p.done, maps.Clone(p.at), maps.Clone(p.there)}
}

func (p *plain) String() string {
	return fmt.Sprintf("size %d, timeout %d, %d done, sent %v, there %v", p.size, p.timeout, p.done, p.at, p.there)
}

// far are steps by which a number may be moved.
var far = []int{0, 1, 2, 31, 32, 33, -1, -2, 255, 256, 32767, 32768, -32768, -32769, 65535, 65536, -65536, 1<<32 + 5, math.MaxInt32, math.MinInt32, math.MaxInt - 65536, math.MinInt + 65536}

// wantPlain holds all that a window tells against a plain one, and what copies of both would send at some ticks.
func wantPlain(t *testing.T, what string, w *Window, p *plain) {
	t.Helper()
	wantLook(t, what, w, p)
	for _, i := range far {
		if got, want := w.Num(i), p.num(i); got != want {
			t.Fatalf("%s: Num(%d): %d, want %d; %v", what, i, got, want, p)
		}
	}
	// The tick at which the time of each is just over, and the one ahead of it.
	ticks := map[int]int{0: 1, math.MaxInt: 1}
	for _, at := range p.at {
		ticks[at+p.timeout-1], ticks[at+p.timeout] = 1, 1
	}
	for now := range ticks {
		other, q := *w, p.copy()
		if got, want := other.Send(40, now), q.send(40, now); !slices.Equal(got, want) {
			t.Fatalf("%s: then Send(40, %d): %v, want %v; %v", what, now, got, want, p)
		}
	}
}

// wantLook is a short wantPlain.
func wantLook(t *testing.T, what string, w *Window, p *plain) {
	t.Helper()
	if got, want := w.Base(), p.num(0); got != want {
		t.Fatalf("%s: Base: %d, want %d; %v", what, got, want, p)
	}
	if got, want := w.Open(), p.open(); got != want {
		t.Fatalf("%s: Open: %d, want %d; %v", what, got, want, p)
	}
	if w.Open() > p.size {
		t.Fatalf("%s: %d are open, but the window has only %d places", what, w.Open(), p.size)
	}
}

// call is one of a window, done to a plain one too.
type call struct {
	kind      byte // s, a or r
	have, now int
	by        int // of an ack: how far its number is from the base
	set       uint64
}

func (c call) String() string {
	switch c.kind {
	case 's':
		return fmt.Sprintf("Send(%d, %d)", c.have, c.now)
	case 'a':
		return fmt.Sprintf("Ack(base %+d, %#x)", c.by, c.set)
	}
	return "Reset()"
}

// do makes a call, and holds what both answer.
func (c call) do(t *testing.T, what string, w *Window, p *plain) {
	t.Helper()
	switch c.kind {
	case 's':
		if got, want := w.Send(c.have, c.now), p.send(c.have, c.now); !slices.Equal(got, want) {
			t.Fatalf("%s: %v: %v, want %v; %v", what, c, got, want, p)
		}
	case 'a':
		num := p.num(c.by)
		if got, want := w.Ack(num, c.set), p.ack(num, c.set); got != want {
			t.Fatalf("%s: %v: %d, want %d; %v", what, c, got, want, p)
		}
	case 'r':
		w.Reset()
		p.reset()
	}
	wantLook(t, what, w, p)
}
