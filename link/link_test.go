package link

import (
	"fmt"
	"math"
	"math/rand"
	"slices"
	"testing"

	"staith/api"
	"staith/packet"
)

// madeOut is NewOut of 1 to 2, which must make one, and the plain one.
func madeOut(t *testing.T, x api.Settings, epoch uint64) (*Out, *plainOut) {
	t.Helper()
	o, p := NewOut(1, 2, x, epoch), newPlainOut(1, 2, x, epoch)
	if o == nil {
		t.Fatalf("NewOut(1, 2, %+v, %d) made none", x, epoch)
	}
	lookOut(t, "NewOut", o, p)
	return o, p
}

// upOut is one that is up, whose window's base is that number, and under whose window nothing is under way.
func upOut(t *testing.T, x api.Settings, epoch uint64, base int) (*Out, *plainOut) {
	t.Helper()
	o, p := madeOut(t, x, epoch)
	call{kind: 'w'}.doOut(t, "", o, p)
	for at := 0; at < base; {
		step := min(x.Window, base-at)
		at += step
		o.Tick(0, messages(0, step))
		if n := o.Hear(api.Packet{Kind: 4, From: 2, To: 1, Epoch: epoch, Num: uint16(at)}); n != step {
			t.Fatalf("Ack %d: %d, want %d", at, n, step)
		}
	}
	p.done, p.all = base, base
	lookOut(t, "up", o, p)
	return o, p
}

// madeIn is NewIn of 1 to 2, which must make one, and the plain one.
func madeIn(t *testing.T, x api.Settings) (*In, *plainIn) {
	t.Helper()
	i, p := NewIn(1, 2, x), newPlainIn(1, 2, x)
	if i == nil {
		t.Fatalf("NewIn(1, 2, %+v) made none", x)
	}
	lookIn(t, "NewIn", i, p)
	return i, p
}

// upIn is one of an epoch, out of which so many came.
func upIn(t *testing.T, x api.Settings, epoch uint64, next int) (*In, *plainIn) {
	t.Helper()
	i, p := madeIn(t, x)
	i.Hear(api.Packet{Kind: 1, From: 1, To: 2, Epoch: epoch})
	m := message(0)
	for n := range next {
		i.Hear(api.Packet{Kind: 3, From: 1, To: 2, Epoch: epoch, Num: uint16(n), Message: m})
		if !i.Pop() {
			t.Fatalf("data %d did not come out", n)
		}
	}
	p.epoch, p.next = epoch, next
	lookIn(t, "up", i, p)
	return i, p
}

func rowOut(t *testing.T, what string, o *Out, p *plainOut, row ...call) {
	t.Helper()
	for _, c := range row {
		c.doOut(t, what, o, p)
		what += c.String()
	}
	wantOut(t, what, o, p)
}

func rowIn(t *testing.T, what string, i *In, p *plainIn, row ...call) {
	t.Helper()
	for _, c := range row {
		c.doIn(t, what, i, p)
		what += c.String()
	}
}

func wantHear(t *testing.T, o *Out, p api.Packet, want int) {
	t.Helper()
	if got := o.Hear(p); got != want {
		t.Fatalf("Hear(%+v): %d, want %d", p, got, want)
	}
}

func TestExampleOfTheChapter(t *testing.T) {
	x, m := settings(4, 3), message(6)
	o, i := NewOut(1, 2, x, 5), NewIn(1, 2, x)
	hello := o.Tick(0, nil)
	wantPackets(t, "Tick", hello, []api.Packet{{Kind: 1, From: 1, To: 2, Epoch: 5}})
	back, ok := i.Hear(hello[0])
	wantPackets(t, "Hear of hello", back, []api.Packet{{Kind: 2, From: 2, To: 1, Epoch: 5}})
	if ok || o.Up() {
		t.Fatalf("Hear of hello: %v; Up: %v", ok, o.Up())
	}
	wantHear(t, o, back[0], 0)
	if !o.Up() {
		t.Fatal("not up behind a welcome")
	}
	data := o.Tick(0, []api.Message{m})
	wantPackets(t, "Tick", data, []api.Packet{{Kind: 3, From: 1, To: 2, Epoch: 5, Num: 0, Message: m}})
	if back, ok = i.Hear(data[0]); len(back) != 0 || !ok {
		t.Fatalf("Hear of data: %+v, %v", back, ok)
	}
	if got, ok := i.Head(); got != m || !ok || !i.Pop() {
		t.Fatalf("Head: %+v, %v", got, ok)
	}
	a, ok := i.Ack()
	if want := (api.Packet{Kind: 4, From: 2, To: 1, Epoch: 5, Num: 1}); a != want || !ok {
		t.Fatalf("Ack: %+v, %v", a, ok)
	}
	wantHear(t, o, a, 1)
}

// P23.1 and P23.2: what may be made

func TestEndsOfEachWay(t *testing.T) {
	x := settings(2, 2)
	for _, from := range []int{math.MinInt, -1 << 32, -1, 0, 1, 2, 3, 4, 5, 6, 7, 8, 9, 10, 257, 1<<32 + 1, math.MaxInt} {
		for _, to := range []int{math.MinInt, -1 << 32, -1, 0, 1, 2, 3, 4, 5, 6, 7, 8, 9, 10, 258, 1<<32 + 2, math.MaxInt} {
			may := from >= 1 && from <= 8 && to >= 1 && to <= 8 && from != to
			o, i := NewOut(from, to, x, 1), NewIn(from, to, x)
			if (o != nil) != may || (i != nil) != may {
				t.Fatalf("%d to %d: made %v, %v; want %v", from, to, o != nil, i != nil, may)
			}
			if may {
				rowOut(t, "", o, newPlainOut(from, to, x, 1), call{kind: 't', have: 1}, call{kind: 'w'}, call{kind: 't', have: 3}, call{kind: 'a', by: 1})
				rowIn(t, "", i, newPlainIn(from, to, x), call{kind: 'd', m: message(1)}, call{kind: 'h'}, call{kind: 'd', m: message(1)}, call{kind: 'p'})
			}
		}
	}
}

func TestEndsOfEachSettings(t *testing.T) {
	within := func(n, low, high int) bool { return low <= n && n <= high }
	for _, window := range []int{math.MinInt, -1, 0, 1, 2, 31, 32, 33, 1<<32 + 1, math.MaxInt} {
		for _, timeout := range []int{math.MinInt, -1, 0, 1, 1000, 1001, 1<<32 + 1, math.MaxInt} {
			for _, segment := range []int{math.MinInt, -1, 0, 63, 64, 1 << 20, 1<<20 + 1, math.MaxInt} {
				for _, keep := range []int{math.MinInt, -1, 0, 1, 1000, 1001, math.MaxInt} {
					x := api.Settings{Window: window, Timeout: timeout, Segment: segment, Keep: keep}
					may := within(window, 1, 32) && within(timeout, 1, 1000) && within(segment, 64, 1<<20) && within(keep, 1, 1000)
					if o, i := NewOut(1, 2, x, 1), NewIn(1, 2, x); (o != nil) != may || (i != nil) != may {
						t.Fatalf("%+v: made %v, %v; want %v", x, o != nil, i != nil, may)
					}
				}
			}
		}
	}
}

func TestOutOfEachEpoch(t *testing.T) {
	for _, epoch := range []uint64{1, 2, 255, 1 << 32, 1<<32 + 1, 1 << 63, math.MaxUint64 - 1, math.MaxUint64} {
		o, p := madeOut(t, settings(3, 2), epoch)
		rowOut(t, "", o, p, call{kind: 'w'}, call{kind: 't', have: 2}, call{kind: 'a', by: 1}, call{kind: 'z'}, call{kind: 't', have: 2}, call{kind: 'w'}, call{kind: 't', have: 2}, call{kind: 'a', by: 2})
	}
	if NewOut(1, 2, settings(3, 2), 0) != nil {
		t.Error("NewOut of epoch 0 made one")
	}
}

// P23.1: the hello

func TestHelloIsSentAgain(t *testing.T) {
	for _, timeout := range []int{1, 2, 3, 10, 999, 1000} {
		for _, first := range []int{math.MinInt, -1, 0, 1, 5, 1 << 40, lastTick - 2000} {
			o, p := madeOut(t, settings(3, timeout), 7)
			at := max(first, 0)
			rowOut(t, "", o, p, call{kind: 't', now: first}, call{kind: 't', now: first}, call{kind: 't', now: at + timeout - 1, have: 3}, call{kind: 't', now: at + timeout, have: 3})
			rowOut(t, "", o, p, call{kind: 't', now: at + timeout + 1}, call{kind: 't', now: at + 2*timeout - 1}, call{kind: 't', now: at + 2*timeout})
			if o.Open() != 0 {
				t.Fatalf("Open %d though nothing was sent but a hello", o.Open())
			}
		}
	}
	o, _ := madeOut(t, settings(3, 3), 7)
	for now, want := range []int{1, 0, 0, 1, 0, 0, 1, 0} {
		l := o.Tick(now, messages(0, 2))
		if len(l) != want || want == 1 && l[0] != (api.Packet{Kind: 1, From: 1, To: 2, Epoch: 7}) {
			t.Fatalf("Tick(%d): %+v, want %d hellos", now, l, want)
		}
	}
}

func TestHelloAtTicksThatCountAsOthers(t *testing.T) {
	for _, late := range []int{lastTick, lastTick + 1, lastTick + 1000, math.MaxInt - 1, math.MaxInt} {
		o, p := madeOut(t, settings(1, 3), 7)
		rowOut(t, "", o, p, call{kind: 't', now: lastTick - 3}, call{kind: 't', now: lastTick - 1}, call{kind: 't', now: late}, call{kind: 't', now: math.MaxInt}, call{kind: 't'}, call{kind: 't', now: -1})
	}
	o, p := madeOut(t, settings(1, 3), 7)
	rowOut(t, "", o, p, call{kind: 't', now: 100}, call{kind: 't', now: 3}, call{kind: 't', now: 102}, call{kind: 't', now: 103})
	o, p = madeOut(t, settings(1, 3), 7)
	rowOut(t, "", o, p, call{kind: 't', now: math.MinInt}, call{kind: 't', now: 2}, call{kind: 't', now: 3}, call{kind: 't', now: math.MinInt + 5})
}

func TestHelloInEachNewEpoch(t *testing.T) {
	o, p := madeOut(t, settings(2, 1000), 7)
	// It goes at once, whenever that of the epoch ahead was sent; but not twice in one epoch.
	for range 5 {
		rowOut(t, "", o, p, call{kind: 't', now: 50}, call{kind: 't', now: 50}, call{kind: 'z'}, call{kind: 't', now: 50}, call{kind: 'z'}, call{kind: 'z'}, call{kind: 't', now: 2}, call{kind: 't', now: 2})
		rowOut(t, "", o, p, call{kind: 'w'}, call{kind: 't', now: 3, have: 2}, call{kind: 'z'}, call{kind: 't', now: 3, have: 2}, call{kind: 't', now: 4, have: 2}, call{kind: 'w'}, call{kind: 'a', by: -1})
	}
}

// P23.1: welcomes

func TestUpByAWelcomeOfItsEpochAlone(t *testing.T) {
	for _, epoch := range []uint64{1, 5, 1<<32 + 1, math.MaxUint64} {
		for _, told := range []bool{false, true} {
			for _, other := range []uint64{epoch - 1, epoch + 1, epoch / 2, epoch + 1<<32, epoch &^ (1 << 32), 1, math.MaxUint64} {
				o, p := madeOut(t, settings(2, 3), epoch)
				if told {
					call{kind: 't'}.doOut(t, "", o, p)
				}
				k := api.Packet{Kind: 2, From: 2, To: 1, Epoch: other}
				wantHear(t, o, k, 0)
				p.hear(k)
				wantOut(t, fmt.Sprintf("epoch %d, welcome of %d", epoch, other), o, p)
				if o.Up() != (other == epoch) {
					t.Fatalf("epoch %d, welcome of %d: Up %v", epoch, other, o.Up())
				}
			}
		}
	}
}

func TestAWelcomeThatComesAgainChangesNothing(t *testing.T) {
	o, p := upOut(t, settings(4, 5), 9, 3)
	rowOut(t, "", o, p, call{kind: 't', have: 4}, call{kind: 'a', by: 1, set: 2}, call{kind: 'w'}, call{kind: 'w'}, call{kind: 't', have: 4}, call{kind: 'a', by: 3}, call{kind: 'w'})
	if o.Open() != 1 {
		t.Fatalf("Open %d, want 1", o.Open())
	}
}

func TestAWelcomeOfEpoch0(t *testing.T) {
	for _, epoch := range []uint64{1, 7, 1<<32 - 1, math.MaxUint64 - 2, math.MaxUint64 - 1, math.MaxUint64} {
		for up := range 2 {
			for told := range 2 {
				o, p := madeOut(t, settings(3, 10), epoch)
				for range up {
					rowOut(t, "", o, p, call{kind: 'w'}, call{kind: 't', now: 1, have: 3}, call{kind: 'a', by: 1})
				}
				for range told {
					call{kind: 't', now: 2, have: 2}.doOut(t, "", o, p)
				}
				// One that comes twice counts twice.
				rowOut(t, "", o, p, call{kind: 'z'}, call{kind: 'z'}, call{kind: 't', now: 2}, call{kind: 't', now: 3}, call{kind: 'z'}, call{kind: 'w'}, call{kind: 't', now: 3, have: 2})
			}
		}
	}
}

func TestTheWindowIsResetWhenItIsUp(t *testing.T) {
	o, p := upOut(t, settings(4, 5), 9, 6)
	rowOut(t, "", o, p, call{kind: 't', now: 100, have: 4}, call{kind: 'a', by: 1, set: 1})
	was := o.Open()
	rowOut(t, "", o, p, call{kind: 'z'}, call{kind: 't', now: 100, have: 4})
	if was != 2 || o.Open() != was {
		t.Fatalf("Open %d, and behind a welcome of epoch 0 %d; want 2 and 2", was, o.Open())
	}
	call{kind: 'w'}.doOut(t, "", o, p)
	if o.Open() != 0 {
		t.Fatalf("Open %d in a new epoch", o.Open())
	}
	// Numbers begin anew, and all goes out at once that waits.
	wantPackets(t, "Tick", o.Tick(101, messages(7, 2)), []api.Packet{{Kind: 3, From: 1, To: 2, Epoch: 10, Num: 0, Message: message(7)}, {Kind: 3, From: 1, To: 2, Epoch: 10, Num: 1, Message: message(8)}})
}

// P23.1: data

func TestDataOfEachPlace(t *testing.T) {
	for size := 1; size <= 32; size++ {
		for _, base := range []int{0, 3, 65530, 65536} {
			if size != 8 && size < 31 && base > 3 {
				continue
			}
			whole, q := upOut(t, settings(size, 3), 11, base)
			for _, have := range []int{0, 1, 2, size - 1, size, size + 1, 40, 200} {
				o, p := copiedOut(whole), q.copy()
				rowOut(t, "", o, p, call{kind: 't', now: 5, have: have}, call{kind: 't', now: 7, have: have}, call{kind: 't', now: 7, have: 40}, call{kind: 't', now: 8, have: have}, call{kind: 't', now: 10, have: 1})
				if o.Open() != size {
					t.Fatalf("Open %d, want %d", o.Open(), size)
				}
			}
		}
	}
}

func TestDataIsWhatWaitsNow(t *testing.T) {
	o, _ := upOut(t, settings(3, 2), 4, 2)
	data := func(num, n int) api.Packet {
		return api.Packet{Kind: 3, From: 1, To: 2, Epoch: 4, Num: uint16(num), Message: message(n)}
	}
	wantPackets(t, "Tick(0)", o.Tick(0, messages(20, 2)), []api.Packet{data(2, 20), data(3, 21)})
	wantPackets(t, "Tick(1)", o.Tick(1, messages(30, 4)), []api.Packet{data(4, 32)})
	wantPackets(t, "Tick(2)", o.Tick(2, messages(40, 4)), []api.Packet{data(2, 40), data(3, 41)})
	wantPackets(t, "Tick(3)", o.Tick(3, messages(50, 2)), nil)
	wantPackets(t, "Tick(4)", o.Tick(4, messages(60, 3)), []api.Packet{data(2, 60), data(3, 61), data(4, 62)})
	wantHear(t, o, api.Packet{Kind: 4, From: 2, To: 1, Epoch: 4, Num: 3, Mask: 1}, 1)
	wantPackets(t, "Tick(4)", o.Tick(4, messages(70, 3)), []api.Packet{data(5, 72)})
	wantPackets(t, "Tick(6)", o.Tick(6, messages(80, 3)), []api.Packet{data(3, 80), data(5, 82)})
}

func TestDataOfTheLongestMessage(t *testing.T) {
	o, _ := upOut(t, settings(2, 2), math.MaxUint64, 0)
	l := o.Tick(0, []api.Message{longest()})
	wantPackets(t, "Tick", l, []api.Packet{{Kind: 3, From: 1, To: 2, Epoch: math.MaxUint64, Message: longest()}})
	i, p := upIn(t, settings(2, 2), math.MaxUint64, 0)
	rowIn(t, "", i, p, call{kind: 'd', m: longest()}, call{kind: 'p'})
}

func TestAMessageThatMayNotBeIsSentAllTheSame(t *testing.T) {
	// Which of those that wait may be is not the end's affair; no other end hears it.
	for _, m := range badMessages() {
		o, _ := upOut(t, settings(2, 2), 3, 0)
		l := o.Tick(0, []api.Message{m})
		wantPackets(t, "Tick", l, []api.Packet{{Kind: 3, From: 1, To: 2, Epoch: 3, Message: m}})
		i, p := upIn(t, settings(2, 2), 3, 0)
		if back, ok := i.Hear(l[0]); len(back) != 0 || ok {
			t.Fatalf("Hear of %+v: %+v, %v", l[0], back, ok)
		}
		wantIn(t, "", i, p)
	}
}

// P23.1: acks

func TestAckOfEachNumber(t *testing.T) {
	for _, base := range []int{0, 1, 5, 32767, 32768, 65535} {
		for _, size := range []int{1, 4, 32} {
			if size == 1 && base > 5 {
				continue
			}
			whole, q := upOut(t, settings(size, 9), 6, base)
			call{kind: 't', have: size}.doOut(t, "", whole, q)
			for by := -32768; by <= 32767; by++ {
				o := copiedOut(whole)
				n, epoch := 0, uint64(6)
				switch {
				case by < 0:
					epoch++
				case by <= size:
					n = by
				}
				wantHear(t, o, api.Packet{Kind: 4, From: 2, To: 1, Epoch: 6, Num: uint16(base + by), Mask: math.MaxUint64 << size}, n)
				if o.Epoch() != epoch || o.Up() != (epoch == 6) || o.Open() != size-n {
					t.Fatalf("base %d, ack %+d: Epoch %d, Up %v, Open %d", base, by, o.Epoch(), o.Up(), o.Open())
				}
			}
		}
	}
}

func TestAckBehindTheBaseIsAWelcomeOfEpoch0(t *testing.T) {
	for _, epoch := range []uint64{6, math.MaxUint64 - 1, math.MaxUint64} {
		for _, by := range []int{-1, -2, -100, -32768} {
			o, p := upOut(t, settings(4, 1000), epoch, 10)
			r, q := upOut(t, settings(4, 1000), epoch, 10)
			rowOut(t, "", o, p, call{kind: 't', have: 3}, call{kind: 'a', set: 2})
			rowOut(t, "", r, q, call{kind: 't', have: 3}, call{kind: 'a', set: 2})
			call{kind: 'a', by: by, set: math.MaxUint64}.doOut(t, "", o, p)
			call{kind: 'z'}.doOut(t, "", r, q)
			wantOut(t, "as a welcome of epoch 0: ", o, q)
			rowOut(t, "", o, p, call{kind: 't', have: 3}, call{kind: 'w'}, call{kind: 't', have: 3})
		}
	}
}

func TestAckTellsWhatIsThere(t *testing.T) {
	for set := range uint64(64) {
		for n := range 6 {
			o, p := upOut(t, settings(5, 2), 8, 1)
			rowOut(t, "", o, p, call{kind: 't', have: 4}, call{kind: 'a', by: n, set: set}, call{kind: 't', now: 1, have: 5}, call{kind: 't', now: 2, have: 5}, call{kind: 'a', by: 1, set: 63})
		}
	}
}

func TestAckCountsInItsEpochAndWhenItIsUp(t *testing.T) {
	for _, by := range []int{-1, 0, 1, 2, 3} {
		for _, epoch := range []int{-2, -1, 1, 2, 1 << 40} {
			o, p := upOut(t, settings(3, 5), 8, 2)
			rowOut(t, "", o, p, call{kind: 't', have: 2}, call{kind: 'a', by: by, set: 3, epoch: epoch})
			if !o.Up() || o.Epoch() != 8 || o.Open() != 2 {
				t.Fatalf("an ack of epoch %+d counts", epoch)
			}
		}
		for _, told := range []bool{false, true} {
			o, p := madeOut(t, settings(3, 5), 8)
			if told {
				call{kind: 't', have: 2}.doOut(t, "", o, p)
			}
			rowOut(t, "", o, p, call{kind: 'a', by: by, set: 3})
			// Nor when it was up, and is not any more.
			o, p = upOut(t, settings(3, 5), 8, 2)
			rowOut(t, "", o, p, call{kind: 't', have: 2}, call{kind: 'z'}, call{kind: 'a', by: by, set: 3}, call{kind: 'a', by: by, epoch: -1}, call{kind: 'w'}, call{kind: 'a', by: max(by, 0)})
		}
	}
}

func TestWhatAnEndThatSendsDoesNotHear(t *testing.T) {
	good := []api.Packet{
		{Kind: 1, From: 2, To: 1, Epoch: 8}, {Kind: 1, From: 2, To: 1, Epoch: 9}, {Kind: 1, From: 1, To: 2, Epoch: 9},
		{Kind: 3, From: 2, To: 1, Epoch: 8, Message: message(1)}, {Kind: 3, From: 2, To: 1, Epoch: 9, Num: 1, Message: message(1)}, {Kind: 3, From: 1, To: 2, Epoch: 9, Message: message(1)},
	}
	for up := range 2 {
		o, p := madeOut(t, settings(3, 5), 8)
		for range up {
			rowOut(t, "", o, p, call{kind: 'w'}, call{kind: 't', have: 3}, call{kind: 'a', by: 1})
		}
		l := slices.Clone(good)
		for _, k := range []api.Packet{{Kind: 2, From: 2, To: 1}, {Kind: 2, From: 2, To: 1, Epoch: 8}, {Kind: 4, From: 2, To: 1, Epoch: 8}, {Kind: 4, From: 2, To: 1, Epoch: 8, Num: 2, Mask: 3}} {
			l = append(l, spoiled(k)...)
		}
		for _, k := range l {
			was := p.String()
			wantHear(t, o, k, 0)
			lookOut(t, fmt.Sprintf("behind %+v, %s", k, was), o, p)
		}
		wantOut(t, "what is not heard: ", o, p)
	}
}

// P23.2

func TestHelloOfEachEpoch(t *testing.T) {
	epochs := []uint64{1, 2, 3, 255, 256, 1<<32 - 1, 1 << 32, 1<<32 + 1, 1 << 63, math.MaxUint64 - 1, math.MaxUint64}
	for _, own := range epochs {
		for _, other := range epochs {
			i, p := upIn(t, settings(4, 3), own, 2)
			rowIn(t, "", i, p, call{kind: 'd', m: message(2)}, call{kind: 'd', by: 2, m: message(4)})
			k := api.Packet{Kind: 1, From: 1, To: 2, Epoch: other}
			for range 2 {
				got, ok := i.Hear(k)
				want, _ := p.hear(k)
				wantPackets(t, fmt.Sprintf("epoch %d, hello of %d", own, other), got, want)
				if ok || (len(got) == 1) != (other >= own) {
					t.Fatalf("epoch %d, hello of %d: %+v, %v", own, other, got, ok)
				}
			}
			wantIn(t, fmt.Sprintf("epoch %d, hello of %d: ", own, other), i, p)
		}
	}
}

func TestAnElderHelloIsNotAnswered(t *testing.T) {
	i, p := upIn(t, settings(4, 3), 9, 0)
	for epoch := range uint64(9) {
		if l, ok := i.Hear(api.Packet{Kind: 1, From: 1, To: 2, Epoch: epoch}); len(l) != 0 || ok {
			t.Fatalf("hello of %d: %+v, %v", epoch, l, ok)
		}
	}
	wantIn(t, "", i, p)
}

func TestAHelloThatComesAgainResetsNothing(t *testing.T) {
	i, p := upIn(t, settings(4, 3), 9, 5)
	rowIn(t, "", i, p, call{kind: 'd', m: message(5)}, call{kind: 'h'}, call{kind: 'd', by: 1, m: message(6)}, call{kind: 'h'}, call{kind: 'p'}, call{kind: 'h'}, call{kind: 'p'}, call{kind: 'h'})
	if a, _ := i.Ack(); a.Num != 7 {
		t.Fatalf("Ack %+v, want 7", a)
	}
}

func TestDataOfEachEpoch(t *testing.T) {
	epochs := []uint64{1, 2, 255, 256, 1<<32 - 1, 1 << 32, 1<<32 + 1, math.MaxUint64 - 1, math.MaxUint64}
	for _, own := range append([]uint64{0}, epochs...) {
		for _, other := range epochs {
			for by := range 6 {
				i, p := madeIn(t, settings(4, 3))
				if own > 0 {
					i, p = upIn(t, settings(4, 3), own, 1)
				}
				k := api.Packet{Kind: 3, From: 1, To: 2, Epoch: other, Num: uint16(by), Message: message(by)}
				for range 2 {
					got, ok := i.Hear(k)
					want, is := p.hear(k)
					wantPackets(t, fmt.Sprintf("epoch %d, data of %d", own, other), got, want)
					if ok != is || ok != (own == other) || (len(got) == 1) != (other > own) {
						t.Fatalf("epoch %d, data of %d: %+v, %v", own, other, got, ok)
					}
				}
				// Also by data it comes into no other epoch.
				wantIn(t, fmt.Sprintf("epoch %d, data of %d: ", own, other), i, p)
			}
		}
	}
}

func TestDataOfEachNumber(t *testing.T) {
	for _, next := range []int{0, 1, 32768, 65535} {
		for _, size := range []int{1, 4, 32} {
			i, p := upIn(t, settings(size, 3), 5, next)
			odd := message(1234)
			for num := range 65536 {
				by := (num - next + 2*65536) % 65536
				if by < size {
					continue
				}
				l, ok := i.Hear(api.Packet{Kind: 3, From: 1, To: 2, Epoch: 5, Num: uint16(num), Message: odd})
				if len(l) != 0 || !ok {
					t.Fatalf("data %d: %+v, %v, want nothing and true", num, l, ok)
				}
			}
			lookIn(t, "numbers that are too far: ", i, p)
			for by := size - 1; by >= 0; by-- {
				rowIn(t, "", i, p, call{kind: 'd', by: by, m: message(by)}, call{kind: 'd', by: by, m: odd})
			}
			for range size + 1 {
				rowIn(t, "", i, p, call{kind: 'p'})
			}
		}
	}
}

func TestAckOfAnEndThatTakesIn(t *testing.T) {
	i, p := madeIn(t, settings(4, 3))
	for range 2 {
		if a, ok := i.Ack(); ok || a != (api.Packet{}) {
			t.Fatalf("Ack of epoch 0: %+v, %v", a, ok)
		}
	}
	rowIn(t, "", i, p, call{kind: 'd', m: message(1)}, call{kind: 'p'}, call{kind: 'h'})
	for _, next := range []int{0, 1, 65530, 65535, 65536, 65537} {
		i, p = upIn(t, settings(4, 3), math.MaxUint64, next)
		for set := range 16 {
			for k := range 4 {
				if set>>k&1 == 1 {
					rowIn(t, "", i, p, call{kind: 'd', by: k, m: message(k)})
				}
			}
			a, ok := i.Ack()
			if !ok || !packet.Good(a) {
				t.Fatalf("Ack: %+v, %v", a, ok)
			}
			rowIn(t, "", i, p, call{kind: 'p'})
		}
	}
}

func TestWhatAnEndThatTakesInDoesNotHear(t *testing.T) {
	for _, own := range []uint64{0, 8} {
		i, p := madeIn(t, settings(4, 3))
		if own > 0 {
			i, p = upIn(t, settings(4, 3), own, 3)
			rowIn(t, "", i, p, call{kind: 'd', m: message(3)}, call{kind: 'd', by: 2, m: message(5)})
		}
		l := []api.Packet{
			{Kind: 2, From: 1, To: 2}, {Kind: 2, From: 1, To: 2, Epoch: 8}, {Kind: 2, From: 1, To: 2, Epoch: 9}, {Kind: 2, From: 2, To: 1, Epoch: 9},
			{Kind: 4, From: 1, To: 2, Epoch: 8}, {Kind: 4, From: 1, To: 2, Epoch: 9, Num: 3, Mask: 5}, {Kind: 4, From: 2, To: 1, Epoch: 9},
		}
		for _, k := range []api.Packet{
			{Kind: 1, From: 1, To: 2, Epoch: 8}, {Kind: 1, From: 1, To: 2, Epoch: 9},
			{Kind: 3, From: 1, To: 2, Epoch: 8, Num: 4, Message: message(4)}, {Kind: 3, From: 1, To: 2, Epoch: 9, Num: 4, Message: message(4)},
		} {
			l = append(l, spoiled(k)...)
		}
		for _, k := range l {
			if back, ok := i.Hear(k); len(back) != 0 || ok {
				t.Fatalf("Hear of %+v: %+v, %v", k, back, ok)
			}
			lookIn(t, fmt.Sprintf("behind %+v", k), i, p)
		}
		wantIn(t, "what is not heard: ", i, p)
	}
}

// All short rows of calls, and long ones, held against the chapter's words.

func shortOut() []call {
	return []call{
		{kind: 't', have: 3}, {kind: 't', now: 1, have: 1}, {kind: 't', now: 2, have: 2},
		{kind: 'w'}, {kind: 'w', epoch: 1}, {kind: 'z'}, {kind: 'w', astray: true}, {kind: 'z', astray: true},
		{kind: 'a', set: 1}, {kind: 'a', by: 1}, {kind: 'a', by: 1, set: 1}, {kind: 'a', by: 2}, {kind: 'a', by: -1, set: 3}, {kind: 'a', by: 1, epoch: -1}, {kind: 'a', by: -1, astray: true},
		{kind: 'h'}, {kind: 'd', m: message(1)},
	}
}

func walkOut(t *testing.T, row string, o *Out, p *plainOut, left int) {
	for _, c := range shortOut() {
		other, q := copiedOut(o), p.copy()
		c.doOut(t, row, other, q)
		if left > 1 {
			walkOut(t, row+c.String(), other, q, left-1)
		} else {
			wantOut(t, row+c.String(), other, q)
		}
	}
}

func TestAllShortRowsOfOut(t *testing.T) {
	for size := 1; size <= 2; size++ {
		for timeout := 1; timeout <= 2; timeout++ {
			o, p := madeOut(t, settings(size, timeout), 3)
			walkOut(t, fmt.Sprintf("a window of %d, a timeout of %d: ", size, timeout), o, p, 3)
			o, p = upOut(t, settings(size, timeout), 3, 65535)
			walkOut(t, fmt.Sprintf("a window of %d, a timeout of %d, up: ", size, timeout), o, p, 3)
		}
	}
}

func shortIn() []call {
	return []call{
		{kind: 'p'}, {kind: 'h'}, {kind: 'h', epoch: 1}, {kind: 'h', epoch: -1}, {kind: 'h', epoch: 1, astray: true},
		{kind: 'd', m: message(0)}, {kind: 'd', by: 1, m: message(1)}, {kind: 'd', by: 2, m: message(2)}, {kind: 'd', by: -1, m: message(3)},
		{kind: 'd', epoch: 1, m: message(4)}, {kind: 'd', epoch: -1, m: message(5)}, {kind: 'd', m: message(6), astray: true},
		{kind: 'w'}, {kind: 'z'}, {kind: 'a', by: 1},
	}
}

func TestAllShortRowsOfIn(t *testing.T) {
	calls := shortIn()
	for size := 1; size <= 2; size++ {
		for row := range 15 * 15 * 15 * 15 {
			i, p := madeIn(t, settings(size, 1))
			what := fmt.Sprintf("a window of %d: ", size)
			for k := row + 15*15*15*15; k > 1; k /= 15 {
				calls[k%15].doIn(t, what, i, p)
			}
			wantIn(t, fmt.Sprintf("%srow %d: ", what, row), i, p)
		}
	}
}

// someCall is any one of an end, mostly one that changes something.
func someCall(r *rand.Rand, size, now int, calls string) call {
	c := call{kind: calls[r.Intn(len(calls))], now: now, have: r.Intn(size + 3), by: r.Intn(size + 1), set: r.Uint64() & r.Uint64() & r.Uint64(), m: message(r.Intn(1000))}
	switch r.Intn(60) {
	case 0:
		c.now = []int{-1, math.MinInt, lastTick + 1, math.MaxInt}[r.Intn(4)]
	case 1:
		c.by = r.Intn(65536) - 32768
	case 2:
		c.epoch = r.Intn(5) - 2
	case 3:
		c.astray = true
	case 4:
		c.have = r.Intn(50)
	case 5:
		c.by = r.Intn(size+3) - 2
	}
	return c
}

func TestLongRowsOfOut(t *testing.T) {
	for seed := range int64(200) {
		r := rand.New(rand.NewSource(seed))
		size, now := 1+r.Intn(32), 0
		o, p := upOut(t, settings(size, 1+r.Intn(8)), []uint64{1, 1 << 32, math.MaxUint64 - 5}[r.Intn(3)], r.Intn(3)*200)
		for range 400 {
			now = max(0, now+r.Intn(5)-1)
			someCall(r, size, now, "tttttttttttaaaaaaaaawwwwhdz").doOut(t, fmt.Sprintf("row %d: ", seed), o, p)
		}
		wantOut(t, fmt.Sprintf("row %d: ", seed), o, p)
	}
}

func TestLongRowsOfIn(t *testing.T) {
	for seed := range int64(200) {
		r := rand.New(rand.NewSource(seed))
		size := 1 + r.Intn(32)
		i, p := upIn(t, settings(size, 1), []uint64{1, 1 << 32, math.MaxUint64 - 5}[r.Intn(3)], []int{0, 32760, 65500}[r.Intn(3)])
		for range 500 {
			someCall(r, size, 0, "dddddddddddddppppppphwza").doIn(t, fmt.Sprintf("row %d: ", seed), i, p)
		}
		wantIn(t, fmt.Sprintf("row %d: ", seed), i, p)
	}
}

// P23.3

// flying is a packet that comes at a tick.
type flying struct {
	at int
	p  api.Packet
}

// life is an epoch of an end that takes in; a site that comes up anew has another one.
type life struct {
	in    int
	epoch uint64
}

// world is two ends of a link, and a wire between them that loses, doubles and is late, while either end may begin anew.
type world struct {
	r      *rand.Rand
	x      api.Settings
	out    *Out
	in     *In
	ins    int
	now    int
	wait   int            // how many there are in all
	done   int            // how many of them the end that sends told to be done
	came   int            // how many of them came out at the other end at least once
	begins map[uint64]int // by epochs: how many were done when it was up
	tells  map[life]int   // how many came out in it
	air    []flying
	bad    bool
	late   int // by how many ticks more than one a packet may come
	lost   int // how many of 100 are
}

func newWorld(r *rand.Rand, x api.Settings, wait, late, lost int) *world {
	return &world{r: r, x: x, out: NewOut(1, 2, x, 1<<32+1), in: NewIn(1, 2, x), wait: wait, begins: map[uint64]int{}, tells: map[life]int{}, bad: true, late: late, lost: lost}
}

// put lays packets on the wire, each of them, or not, or more than once.
func (w *world) put(l ...api.Packet) {
	for _, p := range l {
		times, at := 1, w.now+1
		switch n := w.r.Intn(100); {
		case w.bad && n < w.lost:
			times = 0
		case w.bad && n >= 80:
			times = 2
		}
		for range times {
			if w.bad {
				at = w.now + 1 + w.r.Intn(w.late+1)
			}
			w.air = append(w.air, flying{at, p})
		}
	}
}

// come: what comes now is heard.
func (w *world) come(t *testing.T) {
	t.Helper()
	var stay, come []flying
	for _, f := range w.air {
		if f.at <= w.now {
			come = append(come, f)
		} else {
			stay = append(stay, f)
		}
	}
	w.air = stay
	for _, f := range come {
		if f.p.To == 1 {
			w.hearOut(t, f.p)
		} else {
			w.hearIn(t, f.p)
		}
	}
}

func (w *world) hearOut(t *testing.T, p api.Packet) {
	t.Helper()
	w.done += w.out.Hear(p)
	if _, is := w.begins[w.out.Epoch()]; w.out.Up() && !is {
		w.begins[w.out.Epoch()] = w.done
	}
	if w.done > w.came {
		t.Fatalf("behind %+v %d are done, but only %d came out", p, w.done, w.came)
	}
}

func (w *world) hearIn(t *testing.T, p api.Packet) {
	t.Helper()
	back, data := w.in.Hear(p)
	w.put(back...)
	if data {
		w.drain(t)
		w.tell()
	}
}

// tell: the end that takes in says what it has.
func (w *world) tell() {
	if a, ok := w.in.Ack(); ok {
		w.put(a)
	}
}

// drain: what can comes out, not always all of it. It is a beginning of what waited.
func (w *world) drain(t *testing.T) {
	t.Helper()
	for !w.bad || w.r.Intn(4) > 0 {
		m, ok := w.in.Head()
		if !ok {
			return
		}
		now := life{w.ins, w.in.Epoch()}
		begin, is := w.begins[now.epoch]
		n := begin + w.tells[now]
		if !is || m != message(n) || n >= w.wait || !w.in.Pop() {
			t.Fatalf("in epoch %d, which began with %d (%v), %+v came out, want %d", now.epoch, begin, is, m, n)
		}
		w.tells[now]++
		w.came = max(w.came, n+1)
	}
}

// tick: time goes on. What was held back comes out also when no data comes, and is told: the end that sends does not ask again for what it knows to be there.
func (w *world) tick(t *testing.T) {
	t.Helper()
	w.now++
	w.come(t)
	w.drain(t)
	if !w.bad || w.r.Intn(3) == 0 {
		w.tell()
	}
	w.put(w.out.Tick(w.now, messages(w.done, min(40, w.wait-w.done)))...)
	if w.out.Open() > w.x.Window {
		t.Fatalf("%d are open", w.out.Open())
	}
}

// begin: an end does, perhaps.
func (w *world) begin() {
	switch w.r.Intn(150) {
	case 0:
		w.in = NewIn(1, 2, w.x)
		w.ins++
	case 1:
		w.out = NewOut(1, 2, w.x, w.out.Epoch()>>32<<32+1<<32+1)
	}
}

// settle: nothing fails any more, and all that waits is done in the end.
func (w *world) settle(t *testing.T, what string) {
	t.Helper()
	w.bad = false
	for last := w.now + 50*(w.x.Timeout+w.late+20) + 20*(w.wait-w.done); w.done < w.wait; {
		if w.now > last {
			t.Fatalf("%s: only %d of %d are done", what, w.done, w.wait)
		}
		w.tick(t)
	}
	if w.came != w.wait || w.out.Open() != 0 || len(w.out.Tick(w.now, nil)) != 0 {
		t.Fatalf("%s: all are done, but %d of %d came out, and %d are open", what, w.came, w.wait, w.out.Open())
	}
}

func TestAllIsDoneOverABadWire(t *testing.T) {
	most := 0
	for seed := range int64(120) {
		r := rand.New(rand.NewSource(seed))
		w := newWorld(r, settings(1+r.Intn(32), 1+r.Intn(12)), 10, []int{0, 1, 5, 30}[r.Intn(4)], []int{5, 40, 70}[r.Intn(3)])
		for range 400 {
			w.tick(t)
			w.wait += r.Intn(3)
			if seed%2 == 0 {
				w.begin()
			}
		}
		most = max(most, w.done)
		w.settle(t, fmt.Sprintf("row %d", seed))
	}
	if most < 300 {
		t.Errorf("only %d were done while the wire was bad: too few to tell anything", most)
	}
}

func TestOneEpochOfManyNumbers(t *testing.T) {
	// Nothing overtakes another packet, so no ack is late, and the epoch stays the same while numbers go around.
	w := newWorld(rand.New(rand.NewSource(23)), settings(32, 3), 140000, 0, 1)
	for w.now < 40000 && w.done < 135000 {
		w.tick(t)
	}
	if w.done < 135000 || w.out.Epoch() != 1<<32+1 {
		t.Fatalf("only %d are done, in epoch %d", w.done, w.out.Epoch())
	}
	w.settle(t, "many numbers")
	if w.out.Epoch() != 1<<32+1 || len(w.begins) != 1 {
		t.Fatalf("%d epochs were there", len(w.begins))
	}
}

func TestAnEndThatBeginsAnewIsBroughtAll(t *testing.T) {
	// The other end begins anew: what it hears first may be data, or a late hello of an epoch that is over or not.
	for _, first := range []byte("dhD") {
		x := settings(4, 3)
		w := newWorld(rand.New(rand.NewSource(1)), x, 9, 0, 0)
		w.bad = false
		for w.done < 6 {
			w.tick(t)
		}
		w.in = NewIn(1, 2, x)
		w.ins++
		switch first {
		case 'h':
			w.air = append([]flying{{w.now, api.Packet{Kind: 1, From: 1, To: 2, Epoch: 1<<32 + 1}}}, w.air...)
		case 'D':
			w.air = nil
		}
		w.wait += 7
		w.settle(t, fmt.Sprintf("first it hears %c", first))
		if w.out.Epoch() == 1<<32+1 {
			t.Errorf("first it hears %c: the epoch is %d", first, w.out.Epoch())
		}
	}
}

// R5

func TestEndsThatNoCallMade(t *testing.T) {
	l := []api.Packet{{}, {Kind: 2}, {Kind: 4, From: 2, To: 1}}
	for _, way := range []api.Edge{{From: 1, To: 2}, {From: 2, To: 1}} {
		for _, c := range shortOut() {
			l = append(l, c.packet(way.From, way.To, 3, 0))
		}
	}
	for _, o := range []*Out{nil, {}, NewOut(1, 1, settings(1, 1), 1), NewOut(1, 2, settings(1, 1), 0)} {
		for range 2 {
			for _, k := range l {
				wantHear(t, o, k, 0)
			}
			for _, now := range []int{0, 1, -1, math.MinInt, math.MaxInt} {
				wantPackets(t, "Tick", o.Tick(now, nil), nil)
				wantPackets(t, "Tick", o.Tick(now, messages(0, 3)), nil)
			}
			if o.Up() || o.Epoch() != 0 || o.Open() != 0 {
				t.Fatalf("Up %v, Epoch %d, Open %d", o.Up(), o.Epoch(), o.Open())
			}
		}
		if o != nil && *o != (Out{}) {
			t.Errorf("a zero one has changed: %+v", *o)
		}
	}
	for _, i := range []*In{nil, {}, NewIn(0, 2, settings(1, 1)), NewIn(1, 2, settings(0, 1))} {
		for range 2 {
			for _, k := range l {
				if back, ok := i.Hear(k); len(back) != 0 || ok {
					t.Fatalf("Hear(%+v): %+v, %v", k, back, ok)
				}
			}
			m, head := i.Head()
			a, ack := i.Ack()
			if i.Epoch() != 0 || m != (api.Message{}) || head || i.Pop() || a != (api.Packet{}) || ack {
				t.Fatalf("Epoch %d, Head %+v %v, Ack %+v %v", i.Epoch(), m, head, a, ack)
			}
		}
		if i != nil && *i != (In{}) {
			t.Errorf("a zero one has changed: %+v", *i)
		}
	}
}

// R3, R4

func TestWhatIsHandedInIsNotKept(t *testing.T) {
	o, p := upOut(t, settings(4, 2), 5, 0)
	room := messages(0, 6)
	waits := room[:2]
	o.Tick(0, waits)
	if !slices.Equal(room, messages(0, 6)) {
		t.Fatalf("what was handed in has changed: %+v", room)
	}
	for n := range room {
		room[n] = message(99)
	}
	p.tick(0, messages(0, 2))
	wantOut(t, "what was handed in is changed: ", o, p)
}

func TestAnswersAreNewMemory(t *testing.T) {
	spoil := func(l []api.Packet) {
		l = l[:cap(l)]
		for n := range l {
			l[n] = api.Packet{Kind: 4, From: 8, To: 7, Epoch: 9}
		}
	}
	waits := messages(0, 8)
	o, p := madeOut(t, settings(8, 1), 5)
	for now := range 4 {
		one, two := o.Tick(3*now, waits), o.Tick(3*now+1, waits)
		spoil(one)
		wantPackets(t, "another Tick", two, func() []api.Packet { p.tick(3*now, waits); return p.tick(3*now+1, waits) }())
		spoil(two)
		if now == 1 {
			call{kind: 'w'}.doOut(t, "", o, p)
		}
		wantOut(t, "what was answered is changed: ", o, p)
	}
	if !slices.Equal(waits, messages(0, 8)) {
		t.Fatalf("what was handed in has changed: %+v", waits)
	}
	i, q := madeIn(t, settings(8, 1))
	for _, k := range []api.Packet{{Kind: 3, From: 1, To: 2, Epoch: 5, Message: message(1)}, {Kind: 1, From: 1, To: 2, Epoch: 5}} {
		one, _ := i.Hear(k)
		two, _ := i.Hear(k)
		spoil(one)
		q.hear(k)
		want, _ := q.hear(k)
		wantPackets(t, "another Hear", two, want)
		spoil(two)
		lookIn(t, "what was answered is changed: ", i, q)
	}
}

func TestEndsAreApart(t *testing.T) {
	x := settings(3, 2)
	o, p := upOut(t, x, 5, 1)
	other, q := upOut(t, x, 5, 1)
	rowOut(t, "", o, p, call{kind: 't', have: 3}, call{kind: 'a', by: 1}, call{kind: 'z'}, call{kind: 't'})
	wantOut(t, "another one: ", other, q)
	i, r := upIn(t, x, 5, 1)
	second, s := upIn(t, x, 5, 1)
	rowIn(t, "", i, r, call{kind: 'd', m: message(1)}, call{kind: 'd', by: 1, m: message(2)}, call{kind: 'p'})
	wantIn(t, "another one: ", second, s)
	wantIn(t, "the first one: ", i, r)
}
