package link

import (
	"fmt"
	"maps"
	"math"
	"slices"
	"strconv"
	"strings"
	"testing"

	"staith/api"
)

// lastTick is the latest that there is: what is later counts as that.
const lastTick = 1125899906842624

// plainOut is an end that sends, told by the chapters' words. What waits has its own number since the window was reset, from 0 on, that does not go around; the limits stand here once more, so that others of the program's are seen.
type plainOut struct {
	from, to, size, timeout int
	epoch                   uint64
	up                      bool
	hello                   map[int]int // of 0: when the hello of this epoch was sent, if it was
	all                     int         // how many are done, whatever the epoch
	done                    int         // since the window was reset
	at                      map[int]int // of each that was sent, when it was last
	there                   map[int]int // 1 for each that is there
}

func newPlainOut(from, to int, x api.Settings, epoch uint64) *plainOut {
	return &plainOut{from: from, to: to, size: x.Window, timeout: x.Timeout, epoch: epoch, hello: map[int]int{}, at: map[int]int{}, there: map[int]int{}}
}

func (p *plainOut) copy() *plainOut {
	q := *p
	q.hello, q.at, q.there = maps.Clone(p.hello), maps.Clone(p.at), maps.Clone(p.there)
	return &q
}

func (p *plainOut) String() string {
	return fmt.Sprintf("epoch %d, up %v, hello %v, %d done, sent %v, there %v", p.epoch, p.up, p.hello, p.done, p.at, p.there)
}

// due: is it to be sent now? Then it was.
func (p *plainOut) due(at map[int]int, n, now int) bool {
	now = min(max(now, 0), lastTick)
	if was, is := at[n]; is && was+p.timeout > now {
		return false
	}
	at[n] = now
	return true
}

func (p *plainOut) tick(now int, waits []api.Message) []api.Packet {
	var l []api.Packet
	if !p.up {
		if p.due(p.hello, 0, now) {
			l = append(l, api.Packet{Kind: 1, From: p.from, To: p.to, Epoch: p.epoch})
		}
		return l
	}
	for i := 0; i < len(waits) && i < p.size; i++ {
		if p.there[p.done+i] == 0 && p.due(p.at, p.done+i, now) {
			l = append(l, api.Packet{Kind: 3, From: p.from, To: p.to, Epoch: p.epoch, Num: uint16((p.done + i) % 65536), Message: waits[i]})
		}
	}
	return l
}

// hear takes a packet that is good.
func (p *plainOut) hear(k api.Packet) int {
	switch {
	case k.From != p.to || k.To != p.from:
	case k.Kind == 2 && k.Epoch == 0:
		p.anew()
	case k.Kind == 2 && k.Epoch == p.epoch && !p.up:
		p.up, p.done, p.at, p.there = true, 0, map[int]int{}, map[int]int{}
	case k.Kind == 4 && k.Epoch == p.epoch && p.up:
		n := (int(k.Num) - p.done%65536 + 65536) % 65536
		if n >= 32768 {
			p.anew()
		} else if n <= p.size {
			return p.ack(n, k.Mask)
		}
	}
	return 0
}

func (p *plainOut) anew() {
	p.up, p.hello = false, map[int]int{}
	if p.epoch != math.MaxUint64 {
		p.epoch++
	}
}

// ack of the number of place n.
func (p *plainOut) ack(n int, set uint64) int {
	for i := range n {
		if _, was := p.at[p.done+i]; !was {
			return 0
		}
	}
	for k := range 64 {
		if _, was := p.at[p.done+n+1+k]; was && set>>k&1 == 1 {
			p.there[p.done+n+1+k] = 1
		}
	}
	for range n {
		delete(p.at, p.done)
		delete(p.there, p.done)
		p.done++
		p.all++
	}
	return n
}

func (p *plainOut) open() int {
	return len(p.at) - len(p.there)
}

// plainIn is an end that takes in, told likewise.
type plainIn struct {
	from, to, size int
	epoch          uint64
	next           int
	held           map[int]api.Message
}

func newPlainIn(from, to int, x api.Settings) *plainIn {
	return &plainIn{from: from, to: to, size: x.Window, held: map[int]api.Message{}}
}

func (p *plainIn) String() string {
	return fmt.Sprintf("epoch %d, next %d, held %v", p.epoch, p.next, slices.Sorted(maps.Keys(p.held)))
}

// hear takes a packet that is good.
func (p *plainIn) hear(k api.Packet) ([]api.Packet, bool) {
	welcome := func(epoch uint64) []api.Packet {
		return []api.Packet{{Kind: 2, From: p.to, To: p.from, Epoch: epoch}}
	}
	switch {
	case k.From != p.from || k.To != p.to:
	case k.Kind == 1 && k.Epoch > p.epoch:
		p.epoch, p.next, p.held = k.Epoch, 0, map[int]api.Message{}
		return welcome(k.Epoch), false
	case k.Kind == 1 && k.Epoch == p.epoch:
		return welcome(k.Epoch), false
	case k.Kind == 3 && k.Epoch > p.epoch:
		return welcome(0), false
	case k.Kind == 3 && k.Epoch == p.epoch:
		n := p.next + (int(k.Num)-p.next%65536+65536)%65536
		if _, is := p.held[n]; !is && n < p.next+p.size {
			p.held[n] = k.Message
		}
		return nil, true
	}
	return nil, false
}

func (p *plainIn) head() (api.Message, bool) {
	m, is := p.held[p.next]
	return m, is
}

func (p *plainIn) pop() bool {
	if _, is := p.held[p.next]; !is {
		return false
	}
	delete(p.held, p.next)
	p.next++
	return true
}

func (p *plainIn) ack() (api.Packet, bool) {
	if p.epoch == 0 {
		return api.Packet{}, false
	}
	k := api.Packet{Kind: 4, From: p.to, To: p.from, Epoch: p.epoch, Num: uint16(p.next % 65536)}
	for i := range 64 {
		if _, is := p.held[p.next+1+i]; is {
			k.Mask |= 1 << i
		}
	}
	return k, true
}

// settings are good ones, for a window and a timeout.
func settings(size, timeout int) api.Settings {
	return api.Settings{Window: size, Timeout: timeout, Segment: 64, Keep: 1}
}

// message is one, told apart from the others by a number.
func message(n int) api.Message {
	return api.Message{Ident: api.Ident{Origin: 1 + n%8, Seq: uint64(1 + n)}, Hop: n % 9, Exchange: "x", Key: "k.k", Body: strconv.Itoa(n)}
}

// messages are some from a number on.
func messages(from, count int) []api.Message {
	var l []api.Message
	for i := range count {
		l = append(l, message(from+i))
	}
	return l
}

// longest is the message that has the most bytes, and the greatest numbers.
func longest() api.Message {
	return api.Message{Ident: api.Ident{Origin: 8, Seq: math.MaxUint64}, Hop: 8, Exchange: strings.Repeat("x", 20), Key: strings.Repeat("k", 60), Body: strings.Repeat("b", 200)}
}

// badMessages are such as may not be in a packet.
func badMessages() []api.Message {
	var l []api.Message
	for _, change := range []func(m *api.Message){
		func(m *api.Message) { *m = api.Message{} },
		func(m *api.Message) { m.Ident.Origin = 0 },
		func(m *api.Message) { m.Ident.Origin = 9 },
		func(m *api.Message) { m.Ident.Seq = 0 },
		func(m *api.Message) { m.Hop = -1 },
		func(m *api.Message) { m.Hop = 9 },
		func(m *api.Message) { m.Exchange = "" },
		func(m *api.Message) { m.Exchange = strings.Repeat("x", 21) },
		func(m *api.Message) { m.Key = "a..b" },
		func(m *api.Message) { m.Key = strings.Repeat("k", 61) },
		func(m *api.Message) { m.Body = strings.Repeat("b", 201) },
	} {
		m := message(1)
		change(&m)
		l = append(l, m)
	}
	return l
}

// spoiled are packets like a good one that are not good, or go another way.
func spoiled(k api.Packet) []api.Packet {
	var l []api.Packet
	add := func(change func(p *api.Packet)) {
		p := k
		change(&p)
		if p != k {
			l = append(l, p)
		}
	}
	for _, n := range []int{math.MinInt, -1 << 32, -1, 0, 3, 8, 9, 1<<32 + k.From, 1<<32 + k.To, 256 + k.From, 256 + k.To, math.MaxInt} {
		add(func(p *api.Packet) { p.From = n })
		add(func(p *api.Packet) { p.To = n })
		add(func(p *api.Packet) { p.From, p.To = n, n })
	}
	add(func(p *api.Packet) { p.From, p.To = p.To, p.From })
	add(func(p *api.Packet) { p.From = p.To })
	add(func(p *api.Packet) { p.To = p.From })
	for _, kind := range []int{math.MinInt, -1, 0, 5, 256 + k.Kind, 1<<32 + k.Kind, math.MaxInt} {
		add(func(p *api.Packet) { p.Kind = kind })
	}
	if k.Kind != 3 {
		add(func(p *api.Packet) { p.Message = message(1) })
		add(func(p *api.Packet) { p.Message.Hop = 1 })
	} else {
		for _, m := range badMessages() {
			add(func(p *api.Packet) { p.Message = m })
		}
	}
	if k.Kind != 4 {
		add(func(p *api.Packet) { p.Mask = 1 })
	}
	if k.Kind < 3 {
		add(func(p *api.Packet) { p.Num = 1 })
	}
	if k.Kind != 2 {
		add(func(p *api.Packet) { p.Epoch = 0 })
	}
	return l
}

// call is one of an end, done to a plain one too.
type call struct {
	kind      byte // t: Tick; h, w, d, a: Hear of a hello, welcome, data, ack; z: of a welcome of Epoch 0; p: Pop
	now, have int  // of Tick
	epoch     int  // of a packet: how far it is from the end's own
	by        int  // of data and acks: how far the number is from the first one that is not done, or not out
	set       uint64
	m         api.Message
	astray    bool // it goes another way
}

func (c call) String() string {
	switch c.kind {
	case 't':
		return fmt.Sprintf("Tick(%d, %d wait) ", c.now, c.have)
	case 'p':
		return "Pop() "
	}
	return fmt.Sprintf("Hear(%c, epoch %+d, num %+d, set %#x, astray %v) ", c.kind, c.epoch, c.by, c.set, c.astray)
}

// packet is what is heard, on a way, by an end of an epoch whose next number is that.
func (c call) packet(from, to int, epoch uint64, next int) api.Packet {
	p := api.Packet{Kind: strings.IndexByte(" hwda", c.kind), From: from, To: to, Epoch: epoch + uint64(c.epoch)}
	num := uint16((next + c.by + 65536) % 65536)
	switch c.kind {
	case 'z':
		p.Kind, p.Epoch = 2, 0
	case 'd':
		p.Num, p.Message = num, c.m
	case 'a':
		p.Num, p.Mask = num, c.set
	}
	if p.Epoch == 0 && c.kind != 'z' {
		p.Epoch = 1
	}
	if c.astray {
		p.To = 3
	}
	return p
}

// doOut makes a call of an end that sends, and holds what both answer.
func (c call) doOut(t *testing.T, what string, o *Out, p *plainOut) {
	t.Helper()
	if c.kind == 't' {
		waits := messages(p.all, c.have)
		wantPackets(t, what+c.String()+p.String(), o.Tick(c.now, waits), p.tick(c.now, waits))
	} else {
		k := c.packet(p.to, p.from, p.epoch, p.done)
		was := p.String()
		if got, want := o.Hear(k), p.hear(k); got != want {
			t.Fatalf("%s%v: %d, want %d; %s", what, c, got, want, was)
		}
	}
	lookOut(t, what+c.String(), o, p)
}

// doIn makes a call of an end that takes in, and holds what both answer.
func (c call) doIn(t *testing.T, what string, i *In, p *plainIn) {
	t.Helper()
	if c.kind == 'p' {
		if got, want := i.Pop(), p.pop(); got != want {
			t.Fatalf("%s%v: %v, want %v; %v", what, c, got, want, p)
		}
	} else {
		k := c.packet(p.from, p.to, p.epoch, p.next)
		got, ok := i.Hear(k)
		want, is := p.hear(k)
		wantPackets(t, what+c.String(), got, want)
		if ok != is {
			t.Fatalf("%s%v: %v, want %v; %v", what, c, ok, is, p)
		}
	}
	lookIn(t, what+c.String(), i, p)
}

func wantPackets(t *testing.T, what string, got, want []api.Packet) {
	t.Helper()
	if !slices.Equal(got, want) {
		t.Fatalf("%s: %+v, want %+v", what, got, want)
	}
}

// lookOut holds what an end that sends tells against a plain one.
func lookOut(t *testing.T, what string, o *Out, p *plainOut) {
	t.Helper()
	if o.Up() != p.up || o.Epoch() != p.epoch || o.Open() != p.open() {
		t.Fatalf("%s: Up %v, Epoch %d, Open %d; want %v, %d, %d; %v", what, o.Up(), o.Epoch(), o.Open(), p.up, p.epoch, p.open(), p)
	}
}

// wantOut is lookOut, and holds what copies of both would send, at some ticks and in another epoch.
func wantOut(t *testing.T, what string, o *Out, p *plainOut) {
	t.Helper()
	lookOut(t, what, o, p)
	ticks := map[int]int{0: 1, math.MaxInt: 1}
	for _, l := range []map[int]int{p.hello, p.at} {
		// The tick at which the time of each is just over, and the one ahead of it.
		for _, at := range l {
			ticks[at+p.timeout-1], ticks[at+p.timeout] = 1, 1
		}
	}
	for now := range ticks {
		other, q := copiedOut(o), p.copy()
		for _, c := range []call{{kind: 't', now: now, have: 35}, {kind: 'w'}, {kind: 't', now: now, have: 35}} {
			c.doOut(t, what+"then ", other, q)
		}
	}
}

// copiedOut is an end like o, which goes on by itself.
func copiedOut(o *Out) *Out {
	other, ahead, hello := *o, *o.Window, *o.hello
	other.Window, other.hello = &ahead, &hello
	return &other
}

// lookIn holds what an end that takes in tells against a plain one.
func lookIn(t *testing.T, what string, i *In, p *plainIn) {
	t.Helper()
	if i.Epoch() != p.epoch {
		t.Fatalf("%s: Epoch %d, want %d; %v", what, i.Epoch(), p.epoch, p)
	}
	m, is := p.head()
	if got, ok := i.Head(); got != m || ok != is {
		t.Fatalf("%s: Head: %+v %v, want %+v %v; %v", what, got, ok, m, is, p)
	}
	k, is := p.ack()
	if got, ok := i.Ack(); got != k || ok != is {
		t.Fatalf("%s: Ack: %+v %v, want %+v %v; %v", what, got, ok, k, is, p)
	}
}

// wantIn is lookIn, and holds what comes out of both when what is missing comes. Behind it both are another thing.
func wantIn(t *testing.T, what string, i *In, p *plainIn) {
	t.Helper()
	lookIn(t, what, i, p)
	for range p.size {
		call{kind: 'd', m: message(77)}.doIn(t, what+"then ", i, p)
		call{kind: 'p'}.doIn(t, what+"then ", i, p)
	}
}
