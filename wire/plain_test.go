package wire

import (
	"fmt"
	"maps"
	"math"
	"slices"
	"strings"
	"testing"

	"staith/api"
)

// plain is a wire told by the chapter's words: packets, not their bytes, with how many bits of each are other than they were sent. The limits stand here once more, so that others of the program's are seen.
type plain struct {
	most int
	list []plainPack
	cut  [9][9]bool // ways that are severed, by From and To
}

type plainPack struct {
	p       api.Packet
	size    int // how many bytes it has
	damaged bool
}

// known is a good packet, and how many bytes it has by the chapter of packets.
type known struct {
	p    api.Packet
	size int
}

func hello(from, to int, epoch uint64) known {
	return known{api.Packet{Kind: 1, From: from, To: to, Epoch: epoch}, 19}
}

func welcome(from, to int, epoch uint64) known {
	return known{api.Packet{Kind: 2, From: from, To: to, Epoch: epoch}, 19}
}

func data(from, to int, num uint16, m api.Message) known {
	p := api.Packet{Kind: 3, From: from, To: to, Epoch: 3, Num: num, Message: m}
	return known{p, 21 + 16 + len(m.Exchange) + len(m.Key) + len(m.Body)}
}

func ack(from, to int, num uint16, mask uint64) known {
	return known{api.Packet{Kind: 4, From: from, To: to, Epoch: 4, Num: num, Mask: mask}, 29}
}

func message(n int) api.Message {
	return api.Message{Ident: api.Ident{Origin: 1 + n%8, Seq: uint64(1 + n)}, Hop: n % 9, Exchange: "x", Key: fmt.Sprint("k.", n), Body: fmt.Sprint("b", n)}
}

// longest is the message that has the most bytes.
func longest() api.Message {
	return api.Message{Ident: api.Ident{Origin: 8, Seq: math.MaxUint64}, Hop: 8, Exchange: strings.Repeat("x", 20), Key: strings.Repeat("k", 60), Body: strings.Repeat("b", 200)}
}

// samples are good packets of all kinds, the shortest and the longest among them.
func samples() []known {
	return []known{
		hello(1, 2, 5), hello(8, 7, math.MaxUint64),
		welcome(2, 1, 5), welcome(3, 8, 0),
		data(1, 2, 0, message(1)), data(7, 8, 65535, longest()), data(4, 1, 258, api.Message{Ident: api.Ident{Origin: 1, Seq: 1}, Exchange: "q"}),
		ack(1, 2, 0, 0), ack(8, 1, 65535, math.MaxUint64),
	}
}

// badPackets are such as may not be sent.
func badPackets() []api.Packet {
	l := []api.Packet{
		{},
		{Kind: 1, From: 1, To: 1, Epoch: 1}, {Kind: 1, From: 0, To: 2, Epoch: 1}, {Kind: 1, From: 1, To: 0, Epoch: 1},
		{Kind: 1, From: 9, To: 2, Epoch: 1}, {Kind: 1, From: 1, To: 9, Epoch: 1}, {Kind: 1, From: -1, To: math.MaxInt, Epoch: 1},
		{Kind: 1, From: 257, To: 2, Epoch: 1}, {Kind: 1, From: 1, To: math.MinInt + 2, Epoch: 1},
		{Kind: 1, From: 1, To: 2}, {Kind: 1, From: 1, To: 2, Epoch: 1, Num: 1}, {Kind: 2, From: 1, To: 2, Mask: 1},
		{Kind: 3, From: 1, To: 2, Epoch: 1}, {Kind: 3, From: 1, To: 2, Message: message(1)}, {Kind: 4, From: 1, To: 2},
		{Kind: 4, From: 1, To: 2, Epoch: 1, Message: message(1)},
	}
	for _, kind := range []int{math.MinInt, -1, 0, 5, 257, math.MaxInt} {
		l = append(l, api.Packet{Kind: kind, From: 1, To: 2, Epoch: 1})
	}
	return l
}

// goodEdge: is it a way that may be severed?
func goodEdge(e api.Edge) bool {
	return e.From >= 1 && e.From <= 8 && e.To >= 1 && e.To <= 8 && e.From != e.To
}

// send takes a packet that is good.
func (p *plain) send(k known) api.Errno {
	if p.cut[k.p.From][k.p.To] {
		return api.OK
	}
	return p.add(plainPack{k.p, k.size, false})
}

func (p *plain) add(k plainPack) api.Errno {
	if len(p.list) == p.most {
		return api.ErrSpace
	}
	p.list = append(p.list, k)
	return api.OK
}

func (p *plain) look(i int) (api.Packet, api.Errno) {
	if i < 0 || i >= len(p.list) {
		return api.Packet{}, api.ErrMissing
	}
	if p.list[i].damaged {
		return api.Packet{}, api.ErrDamage
	}
	return p.list[i].p, api.OK
}

func (p *plain) take(i int) (api.Packet, api.Errno) {
	k, err := p.look(i)
	if err != api.ErrMissing {
		p.drop(i)
	}
	return k, err
}

func (p *plain) drop(i int) api.Errno {
	var left []plainPack
	for k, x := range p.list {
		if k != i {
			left = append(left, x)
		}
	}
	if len(left) == len(p.list) {
		return api.ErrMissing
	}
	p.list = left
	return api.OK
}

func (p *plain) twice(i int) api.Errno {
	if i < 0 || i >= len(p.list) {
		return api.ErrMissing
	}
	return p.add(p.list[i])
}

func (p *plain) flip(i, at, bit int) api.Errno {
	if i < 0 || i >= len(p.list) {
		return api.ErrMissing
	}
	if at < 0 || at >= p.list[i].size || bit < 0 || bit > 7 {
		return api.ErrInput
	}
	if p.list[i].damaged {
		return api.ErrTaken
	}
	p.list[i].damaged = true
	return api.OK
}

func (p *plain) sever(e api.Edge) api.Errno {
	if !goodEdge(e) {
		return api.ErrInput
	}
	if p.cut[e.From][e.To] {
		return api.ErrTaken
	}
	p.cut[e.From][e.To] = true
	var left []plainPack
	for _, k := range p.list {
		if k.damaged || k.p.From != e.From || k.p.To != e.To {
			left = append(left, k)
		}
	}
	p.list = left
	return api.OK
}

func (p *plain) mend(e api.Edge) api.Errno {
	if !goodEdge(e) || !p.cut[e.From][e.To] {
		return api.ErrMissing
	}
	p.cut[e.From][e.To] = false
	return api.OK
}

func (p *plain) severed() []api.Edge {
	var l []api.Edge
	for from := 1; from <= 8; from++ {
		for to := 1; to <= 8; to++ {
			if p.cut[from][to] {
				l = append(l, api.Edge{From: from, To: to})
			}
		}
	}
	return l
}

func (p *plain) copy() *plain {
	return &plain{p.most, slices.Clone(p.list), p.cut}
}

// copied is a wire like w, which goes on by itself.
func copied(w *Wire) *Wire {
	return &Wire{w.most, slices.Clone(w.parcels), maps.Clone(w.severed)}
}

// call is one of a wire, done to a plain one too.
type call struct {
	kind    string
	k       known // of Send
	i       int
	at, bit int      // of Flip
	e       api.Edge // of Sever and Mend
}

// Short ways to write calls.

func send(k known) call             { return call{kind: "Send", k: k} }
func take(i int) call               { return call{kind: "Take", i: i} }
func drop(i int) call               { return call{kind: "Drop", i: i} }
func twice(i int) call              { return call{kind: "Twice", i: i} }
func flip(i, at, bit int) call      { return call{kind: "Flip", i: i, at: at, bit: bit} }
func sever(from, to int) call       { return call{kind: "Sever", e: api.Edge{From: from, To: to}} }
func mend(from, to int) call        { return call{kind: "Mend", e: api.Edge{From: from, To: to}} }
func manySends(n int, k known) call { return call{kind: "Sends", i: n, k: k} }

func (c call) String() string {
	switch c.kind {
	case "Send":
		return fmt.Sprintf("Send(%d of %d to %d)", c.k.p.Kind, c.k.p.From, c.k.p.To)
	case "Flip":
		return fmt.Sprintf("Flip(%d, %d, %d)", c.i, c.at, c.bit)
	case "Sever", "Mend":
		return fmt.Sprintf("%s(%v)", c.kind, c.e)
	}
	return fmt.Sprintf("%s(%d)", c.kind, c.i)
}

// ask does a call of a wire, and tells its answer; beside an error no packet may be told.
func (c call) ask(w *Wire) (api.Packet, api.Errno) {
	var p api.Packet
	var err api.Errno
	switch c.kind {
	case "Send":
		err = w.Send(c.k.p)
	case "Sends":
		for range c.i {
			err = w.Send(c.k.p)
		}
	case "Look":
		p, err = w.Look(c.i)
	case "Take":
		p, err = w.Take(c.i)
	case "Drop":
		err = w.Drop(c.i)
	case "Twice":
		err = w.Twice(c.i)
	case "Flip":
		err = w.Flip(c.i, c.at, c.bit)
	case "Sever":
		err = w.Sever(c.e)
	case "Mend":
		err = w.Mend(c.e)
	}
	return p, err
}

func (c call) want(p *plain) (api.Packet, api.Errno) {
	var k api.Packet
	var err api.Errno
	switch c.kind {
	case "Send":
		err = p.send(c.k)
	case "Sends":
		for range c.i {
			err = p.send(c.k)
		}
	case "Look":
		k, err = p.look(c.i)
	case "Take":
		k, err = p.take(c.i)
	case "Drop":
		err = p.drop(c.i)
	case "Twice":
		err = p.twice(c.i)
	case "Flip":
		err = p.flip(c.i, c.at, c.bit)
	case "Sever":
		err = p.sever(c.e)
	case "Mend":
		err = p.mend(c.e)
	}
	return k, err
}

// do does calls of a wire and of a plain one, which must answer the same, and hold the same then.
func do(t *testing.T, what string, w *Wire, p *plain, row ...call) {
	t.Helper()
	for _, c := range row {
		what += c.String() + " "
		got, gotErr := c.ask(w)
		if want, err := c.want(p); got != want || gotErr != err {
			t.Fatalf("%s: %+v, %v; want %+v, %v", what, got, gotErr, want, err)
		}
		if w.Len() != len(p.list) {
			t.Fatalf("%s: Len %d, want %d", what, w.Len(), len(p.list))
		}
	}
	wantPlain(t, what, w, p)
}

// wantPlain holds all that a wire tells against a plain one.
func wantPlain(t *testing.T, what string, w *Wire, p *plain) {
	t.Helper()
	if got := w.Len(); got != len(p.list) {
		t.Fatalf("%s: Len %d, want %d", what, got, len(p.list))
	}
	for i := -1; i <= len(p.list); i++ {
		k, err := p.look(i)
		if got, gotErr := w.Look(i); got != k || gotErr != err {
			t.Fatalf("%s: Look(%d): %+v, %v; want %+v, %v", what, i, got, gotErr, k, err)
		}
	}
	if got, want := w.Severed(), p.severed(); !slices.Equal(got, want) {
		t.Fatalf("%s: Severed %v, want %v", what, got, want)
	}
}

// both is a wire and the plain one behind some calls.
func both(t *testing.T, most int, row ...call) (*Wire, *plain) {
	t.Helper()
	w, p := New(most), &plain{most: most}
	if w == nil {
		t.Fatalf("New(%d) made none", most)
	}
	do(t, fmt.Sprintf("New(%d) ", most), w, p, row...)
	return w, p
}
