package window

import (
	"fmt"
	"maps"
	"math"
	"math/rand"
	"slices"
	"testing"
)

// lastTick is the latest that there is: what is later counts as that.
const lastTick = 1125899906842624

// made is New, which must make one.
func made(t *testing.T, size, timeout int) *Window {
	t.Helper()
	w := New(size, timeout)
	if w == nil {
		t.Fatalf("New(%d, %d) made none", size, timeout)
	}
	return w
}

func wantSend(t *testing.T, w *Window, have, now int, want ...int) {
	t.Helper()
	if got := w.Send(have, now); !slices.Equal(got, want) {
		t.Fatalf("Send(%d, %d): %v, want %v", have, now, got, want)
	}
}

func wantAck(t *testing.T, w *Window, num uint16, set uint64, want int) {
	t.Helper()
	if got := w.Ack(num, set); got != want {
		t.Fatalf("Ack(%d, %#x): %d, want %d", num, set, got, want)
	}
}

func wantOpen(t *testing.T, w *Window, want int) {
	t.Helper()
	if got := w.Open(); got != want {
		t.Fatalf("Open: %d, want %d", got, want)
	}
}

func wantBase(t *testing.T, w *Window, want uint16) {
	t.Helper()
	if got := w.Base(); got != want {
		t.Fatalf("Base: %d, want %d", got, want)
	}
}

// moved is a window whose base is that number, and under which nothing is under way.
func moved(t *testing.T, size, timeout int, base uint16) *Window {
	t.Helper()
	w := made(t, size, timeout)
	for at := 0; at < int(base); {
		step := min(size, int(base)-at)
		at += step
		w.Send(step, 0)
		wantAck(t, w, uint16(at), 0, step)
		wantBase(t, w, uint16(at))
	}
	return w
}

// first are the numbers below n.
func first(n int) []int {
	var l []int
	for i := range n {
		l = append(l, i)
	}
	return l
}

func TestExampleOfTheChapter(t *testing.T) {
	w := made(t, 2, 3)
	wantSend(t, w, 5, 0, 0, 1)
	wantSend(t, w, 5, 1)
	wantAck(t, w, 1, 0, 1)
	wantSend(t, w, 5, 1, 1)
}

// P20.1

func TestNewOfEachSizeAndTimeout(t *testing.T) {
	for size := 1; size <= 32; size++ {
		for timeout := 1; timeout <= 1000; timeout++ {
			w := made(t, size, timeout)
			wantBase(t, w, 0)
			wantOpen(t, w, 0)
			wantSend(t, w, 100, 7, first(size)...)
			wantSend(t, w, 100, 7+timeout-1)
			wantSend(t, w, 100, 7+timeout, first(size)...)
			wantOpen(t, w, size)
		}
	}
}

func TestNewOfWhatMayNotBe(t *testing.T) {
	bad := []int{0, -1, -2, -32, -1000, 1<<32 + 1, -1<<32 + 1, math.MinInt, math.MinInt + 1, math.MinInt32, math.MaxInt32, math.MaxInt - 1, math.MaxInt}
	for _, n := range append([]int{33, 34, 64, 65, 1000, 1 << 16}, bad...) {
		for _, timeout := range []int{1, 3, 1000, 0} {
			if New(n, timeout) != nil {
				t.Errorf("New(%d, %d) made one", n, timeout)
			}
		}
	}
	for _, n := range append([]int{1001, 1002, 1 << 16}, bad...) {
		for _, size := range []int{1, 2, 32, 0, 33} {
			if New(size, n) != nil {
				t.Errorf("New(%d, %d) made one", size, n)
			}
		}
	}
}

func TestNumIsTheBaseMoved(t *testing.T) {
	for _, base := range []uint16{0, 1, 5, 32767, 32768, 65520, 65535} {
		w := moved(t, 32, 1, base)
		for i := -70000; i <= 70000; i++ {
			if got, want := w.Num(i), uint16((int(base)+i+10*65536)%65536); got != want {
				t.Fatalf("base %d: Num(%d): %d, want %d", base, i, got, want)
			}
		}
		for i, by := range map[int]uint16{math.MaxInt: 65535, math.MaxInt - 1: 65534, math.MinInt: 0, math.MinInt + 1: 1, 1<<32 + 5: 5, -1<<32 - 5: 65531} {
			if got, want := w.Num(i), base+by; got != want {
				t.Errorf("base %d: Num(%d): %d, want %d", base, i, got, want)
			}
		}
	}
}

func TestResetIsAsNewMadeIt(t *testing.T) {
	r := rand.New(rand.NewSource(20))
	for range 300 {
		size, timeout := 1+r.Intn(32), 1+r.Intn(10)
		w, p := made(t, size, timeout), newPlain(size, timeout)
		for range r.Intn(30) {
			someCall(r, p, r.Intn(100)).do(t, "ahead of Reset", w, p)
		}
		w.Reset()
		if *w != *New(size, timeout) {
			t.Fatalf("behind Reset something is left: %+v", *w)
		}
		wantPlain(t, "Reset", w, newPlain(size, timeout))
		wantSend(t, w, 100, 0, first(size)...)
		w.Reset()
		w.Reset()
		wantPlain(t, "Reset twice", w, newPlain(size, timeout))
	}
}

// P20.2

func TestSendGoesBelowHaveAndSize(t *testing.T) {
	for size := 1; size <= 32; size++ {
		for have := -3; have <= 70; have++ {
			n := max(0, min(size, have))
			w := made(t, size, 5)
			wantSend(t, w, have, 0, first(n)...)
			wantOpen(t, w, n)
			wantSend(t, w, have, 0)
			// Those that come to wait later are sent later.
			wantSend(t, w, 32, 4, first(size)[n:]...)
			wantOpen(t, w, size)
			wantSend(t, w, 32, 5, first(n)...)
			wantSend(t, w, 32, 9, first(size)[n:]...)
		}
	}
	for _, have := range []int{math.MinInt, math.MinInt + 1, math.MinInt32, -1 << 32, -1, 0} {
		w := made(t, 32, 1)
		wantSend(t, w, have, 3)
		wantOpen(t, w, 0)
	}
	for _, have := range []int{200, 1 << 32, math.MaxInt32, math.MaxInt - 1, math.MaxInt} {
		wantSend(t, made(t, 32, 1), have, 3, first(32)...)
	}
}

func TestSendLeavesWhatIsNotBelowHave(t *testing.T) {
	w := made(t, 4, 3)
	wantSend(t, w, 4, 0, 0, 1, 2, 3)
	wantSend(t, w, 2, 10, 0, 1)
	wantSend(t, w, 0, 20)
	wantSend(t, w, -1, 20)
	wantOpen(t, w, 4)
	wantSend(t, w, 4, 12, 2, 3)
}

func TestSendGoesByTheLastTimeOfEach(t *testing.T) {
	w := made(t, 3, 10)
	wantSend(t, w, 1, 0, 0)
	wantSend(t, w, 2, 4, 1)
	wantSend(t, w, 3, 9, 2)
	wantSend(t, w, 3, 10, 0)
	wantSend(t, w, 3, 13)
	wantSend(t, w, 3, 14, 1)
	wantSend(t, w, 3, 18)
	wantSend(t, w, 3, 29, 0, 1, 2)
	wantSend(t, w, 3, 38)
	wantSend(t, w, 3, 39, 0, 1, 2)
}

func TestSendOfTicksThatGoBack(t *testing.T) {
	w := made(t, 2, 3)
	wantSend(t, w, 1, 100, 0)
	wantSend(t, w, 2, 50, 1)
	wantSend(t, w, 2, 0)
	wantSend(t, w, 2, 53, 1)
	wantSend(t, w, 2, 102, 1)
	wantAck(t, w, 0, 1, 0)
	wantSend(t, w, 2, 103, 0)
}

func TestTicksBelow0CountAs0(t *testing.T) {
	for _, now := range []int{-1, -2, -3, -1000, math.MinInt32, -1 << 50, math.MinInt + 1, math.MinInt} {
		for timeout := range 4 {
			timeout++
			w := made(t, 2, timeout)
			wantSend(t, w, 1, now, 0)
			wantSend(t, w, 1, timeout-1)
			wantSend(t, w, 2, timeout, 0, 1)
			wantSend(t, w, 2, now)
			wantSend(t, w, 2, 2*timeout-1)
			wantSend(t, w, 2, 2*timeout, 0, 1)
		}
	}
}

func TestTicksAboveTheLastCountAsThat(t *testing.T) {
	for _, now := range []int{lastTick, lastTick + 1, lastTick + 1000, 1 << 51, math.MaxInt - 1, math.MaxInt} {
		w := made(t, 2, 3)
		wantSend(t, w, 1, lastTick-3, 0)
		wantSend(t, w, 1, lastTick-1)
		wantSend(t, w, 1, now, 0)
		wantSend(t, w, 1, math.MaxInt)
		wantSend(t, w, 2, now, 1)
		for _, later := range []int{lastTick, lastTick + 3, lastTick + 4000, math.MaxInt, 0, -1, math.MinInt} {
			wantSend(t, w, 2, later)
		}
		w = made(t, 1, 1)
		wantSend(t, w, 1, now-1, 0)
		if now > lastTick {
			wantSend(t, w, 1, now)
		} else {
			wantSend(t, w, 1, now, 0)
		}
	}
}

func TestWhatIsThereIsNotSent(t *testing.T) {
	w := made(t, 5, 2)
	wantSend(t, w, 5, 0, 0, 1, 2, 3, 4)
	wantAck(t, w, 0, 0b0101, 0)
	wantOpen(t, w, 3)
	wantSend(t, w, 5, 1)
	wantSend(t, w, 5, 2, 0, 2, 4)
	wantOpen(t, w, 3)
	wantSend(t, w, 5, 1000, 0, 2, 4)
	// A set that does not tell it takes nothing back.
	wantAck(t, w, 0, 0, 0)
	wantAck(t, w, 0, 0b1000, 0)
	wantOpen(t, w, 2)
	wantSend(t, w, 5, 2000, 0, 2)
}

// P20.3

func TestAckOfEachNumber(t *testing.T) {
	for _, base := range []uint16{0, 3, 32767, 65530, 65535} {
		for _, size := range []int{1, 2, 5, 31, 32} {
			whole := moved(t, size, 1000, base)
			wantSend(t, whole, size, 7, first(size)...)
			for i := range 65536 {
				w, n := *whole, int(uint16(i)-base)
				if n > size {
					n = 0
				}
				wantAck(t, &w, uint16(i), math.MaxUint64<<size, n)
				if n == 0 {
					if w != *whole {
						t.Fatalf("size %d, base %d: Ack(%d) changed the window", size, base, i)
					}
					continue
				}
				wantBase(t, &w, uint16(i))
				wantOpen(t, &w, size-n)
				wantSend(t, &w, size, 8, first(size)[size-n:]...)
			}
		}
	}
}

func TestAckAsksThatAllBelowWereSent(t *testing.T) {
	for size := 1; size <= 32; size++ {
		for sent := range size + 1 {
			for n := range size + 3 {
				w := made(t, size, 3)
				w.Send(sent, 0)
				was := *w
				if n <= sent {
					wantAck(t, w, uint16(n), 0, n)
					wantBase(t, w, uint16(n))
					wantOpen(t, w, sent-n)
					continue
				}
				// Nothing changes, not even what the set tells.
				wantAck(t, w, uint16(n), math.MaxUint64, 0)
				if *w != was {
					t.Fatalf("size %d, %d sent: Ack(%d) changed the window", size, sent, n)
				}
			}
		}
	}
}

func TestAckSlidesWhatIsBehind(t *testing.T) {
	w := made(t, 4, 10)
	wantSend(t, w, 1, 0, 0)
	wantSend(t, w, 2, 1, 1)
	wantSend(t, w, 3, 2, 2)
	wantSend(t, w, 4, 3, 3)
	wantAck(t, w, 1, 0b1, 1)
	wantOpen(t, w, 2)
	// What was at 1 and 3 is at 0 and 2; what was at 2 is there, at 1, and place 3 is free.
	wantSend(t, w, 2, 10)
	wantSend(t, w, 2, 11, 0)
	wantSend(t, w, 3, 12)
	wantSend(t, w, 4, 12, 3)
	wantSend(t, w, 4, 13, 2)
	wantSend(t, w, 4, 21, 0)
	wantSend(t, w, 4, 22, 3)
	wantAck(t, w, 2, 0, 1)
	wantBase(t, w, 2)
	wantOpen(t, w, 2)
	// It is at 0 now, and there.
	wantSend(t, w, 4, 1000, 1, 2, 3)
	wantAck(t, w, 6, 0, 4)
	wantOpen(t, w, 0)
	wantSend(t, w, 4, 1000, 0, 1, 2, 3)
}

func TestTheSetIsOfPlacesBehindTheNumber(t *testing.T) {
	for n := range 6 {
		for k := range 64 {
			w := made(t, 32, 1)
			wantSend(t, w, 32, 0, first(32)...)
			wantAck(t, w, uint16(n), 1<<k, n)
			var want []int
			for i := range 32 {
				if i != 1+k || i >= 32-n {
					want = append(want, i)
				}
			}
			if 1+k < 32-n {
				wantOpen(t, w, 31-n)
			} else {
				wantOpen(t, w, 32-n)
			}
			wantSend(t, w, 32, 1, want...)
		}
	}
	// Place n itself is in no set.
	w := made(t, 3, 1)
	wantSend(t, w, 3, 0, 0, 1, 2)
	wantAck(t, w, 1, math.MaxUint64, 1)
	wantOpen(t, w, 1)
	wantSend(t, w, 3, 1, 0, 2)
}

func TestWhatWasNotSentIsNotThere(t *testing.T) {
	for size := 1; size <= 32; size++ {
		for sent := range size + 1 {
			for n := range sent + 1 {
				w := made(t, size, 1)
				w.Send(sent, 0)
				wantAck(t, w, uint16(n), math.MaxUint64, n)
				var want []int
				for i := range size {
					if i == 0 || i >= sent-n {
						want = append(want, i)
					}
				}
				wantSend(t, w, size, 1, want...)
				wantOpen(t, w, len(want))
			}
		}
	}
}

func TestAnAckThatIsHeardAgain(t *testing.T) {
	w := made(t, 4, 2)
	wantSend(t, w, 9, 0, 0, 1, 2, 3)
	wantAck(t, w, 2, 1, 2)
	wantAck(t, w, 2, 1, 0)
	wantBase(t, w, 2)
	wantOpen(t, w, 1)
	// An elder one tells nothing, its set neither.
	for num := range uint16(2) {
		wantAck(t, w, num, math.MaxUint64, 0)
		wantAck(t, w, 65535-num, math.MaxUint64, 0)
	}
	wantBase(t, w, 2)
	wantSend(t, w, 9, 1, 2, 3)
	wantSend(t, w, 9, 2, 0)
	wantAck(t, w, 6, 0, 4)
	wantBase(t, w, 6)
}

func TestAckGoesAround(t *testing.T) {
	for size := 1; size <= 32; size++ {
		w, p := moved(t, size, 3, 65520), newPlain(size, 3)
		p.done = 65520
		for now := range 100 {
			call{kind: 's', have: 1 + now%40, now: now}.do(t, "around", w, p)
			call{kind: 'a', by: now % (size + 2), set: uint64(now) * 7}.do(t, "around", w, p)
			wantPlain(t, "around", w, p)
		}
		if w.Base() > 4000 {
			t.Fatalf("size %d: the base is %d, and did not go around", size, w.Base())
		}
	}
}

// All short rows of calls, and long ones, held against the chapter's words.

func shortCalls() []call {
	l := []call{{kind: 'r'}}
	for have := range 4 {
		for now := range 3 {
			l = append(l, call{kind: 's', have: have, now: now})
		}
	}
	for by := -1; by <= 3; by++ {
		for _, set := range []uint64{0, 1, 2} {
			l = append(l, call{kind: 'a', by: by, set: set})
		}
	}
	return l
}

func walk(t *testing.T, row string, w *Window, p *plain, calls []call, left int) {
	for _, c := range calls {
		other, q := *w, p.copy()
		c.do(t, row, &other, q)
		wantLook(t, row, &other, q)
		if left > 1 {
			walk(t, row+c.String()+" ", &other, q, calls, left-1)
		} else {
			wantPlain(t, row+c.String(), &other, q)
		}
	}
}

func TestAllShortRows(t *testing.T) {
	for size := 1; size <= 3; size++ {
		for timeout := 1; timeout <= 2; timeout++ {
			for _, base := range []uint16{0, 65535} {
				w, p := moved(t, size, timeout, base), newPlain(size, timeout)
				p.done = int(base)
				walk(t, fmt.Sprintf("New(%d, %d), base %d: ", size, timeout, base), w, p, shortCalls(), 3)
			}
		}
	}
}

// someCall is any call, mostly one that changes something.
func someCall(r *rand.Rand, p *plain, now int) call {
	switch n := r.Intn(40); {
	case n == 0:
		return call{kind: 'r'}
	case n < 3:
		return call{kind: 's', have: r.Intn(50), now: []int{-1, math.MinInt, lastTick, lastTick - 1, lastTick + 1, math.MaxInt}[r.Intn(6)]}
	case n < 20:
		return call{kind: 's', have: r.Intn(p.size+3) - 1, now: now}
	case n < 22:
		return call{kind: 'a', by: r.Intn(65536) - 32768, set: r.Uint64()}
	}
	return call{kind: 'a', by: r.Intn(p.size+3) - 1, set: r.Uint64() & r.Uint64() & r.Uint64()}
}

func TestLongRows(t *testing.T) {
	for seed := range int64(300) {
		r := rand.New(rand.NewSource(seed))
		size, timeout := 1+r.Intn(32), 1+r.Intn(8)
		w, p := made(t, size, timeout), newPlain(size, timeout)
		now := 0
		for range 400 {
			now = max(0, now+r.Intn(5)-1)
			someCall(r, p, now).do(t, fmt.Sprintf("row %d", seed), w, p)
		}
		wantPlain(t, fmt.Sprintf("row %d", seed), w, p)
	}
}

// P20.4

func TestWhatIsNotThereIsSentAgain(t *testing.T) {
	for seed := range int64(300) {
		r := rand.New(rand.NewSource(seed))
		size, timeout := 1+r.Intn(32), 1+r.Intn(1000)
		w, p := made(t, size, timeout), newPlain(size, timeout)
		for now := range 60 {
			someCall(r, p, 100*now).do(t, "ahead", w, p)
			// Sent at lastTick it has no later tick: nothing is asked of that.
			if slices.ContainsFunc(slices.Collect(maps.Values(p.at)), func(at int) bool { return at > lastTick-2000 }) {
				continue
			}
			other := *w
			again := other.Send(size, lastTick)
			for i := range size {
				if sends := slices.Contains(again, i); sends != (p.there[p.done+i] == 0) {
					t.Fatalf("row %d: at the end of time Send tells %v; %v", seed, again, p)
				}
			}
			if other.Open() > size || other.Open() != len(again) {
				t.Fatalf("row %d: %d are open, but %v were sent", seed, other.Open(), again)
			}
		}
	}
}

// onWire is something that comes at a tick: what waits, by its own number, or an ack.
type onWire struct {
	at   int
	data bool
	own  int
	num  uint16
	set  uint64
}

// world is a window whose packets and acks are lost, doubled and late, and what the other end has.
type world struct {
	r    *rand.Rand
	w    *Window
	size int
	wait int // how many there are in all
	done int // how many of them were told to be done
	next int // the first one that the other end lacks
	held map[int]int
	wire []onWire
	bad  bool
}

// put lays something on the wire, or does not, or twice.
func (x *world) put(now int, o onWire) {
	times := 1
	if x.bad {
		times = x.r.Intn(4) - 1
	}
	for range times {
		o.at = now + 1
		if x.bad {
			o.at += x.r.Intn(20)
		}
		x.wire = append(x.wire, o)
	}
}

// come takes in what comes at a tick.
func (x *world) come(t *testing.T, now int) {
	var stay, come []onWire
	for _, o := range x.wire {
		if o.at <= now {
			come = append(come, o)
		} else {
			stay = append(stay, o)
		}
	}
	x.wire = stay
	for _, o := range come {
		if o.data {
			x.take(now, o.own)
		} else {
			x.hear(t, o)
		}
	}
}

// take: the other end has one, as far as it may, and says what it has.
func (x *world) take(now, own int) {
	if own >= x.next && own < x.next+x.size {
		x.held[own] = 1
	}
	for x.held[x.next] == 1 {
		x.next++
	}
	var set uint64
	for k := range 64 {
		set |= uint64(x.held[x.next+1+k]) << k
	}
	x.put(now, onWire{num: uint16(x.next % 65536), set: set})
}

// hear: what the window tells of an ack.
func (x *world) hear(t *testing.T, o onWire) {
	t.Helper()
	n := x.w.Ack(o.num, o.set)
	x.done += n
	if n < 0 || n > x.size || x.done > x.next {
		t.Fatalf("Ack(%d, %#x): %d; so %d are done, but the other end has %d", o.num, o.set, n, x.done, x.next)
	}
	if x.w.Base() != uint16(x.done%65536) {
		t.Fatalf("%d are done, but the base is %d", x.done, x.w.Base())
	}
}

func (x *world) tick(t *testing.T, now int) {
	t.Helper()
	x.come(t, now)
	for _, place := range x.w.Send(x.wait-x.done, now) {
		own := x.done + place
		if own >= x.wait || place >= x.size || x.w.Num(place) != uint16(own%65536) {
			t.Fatalf("place %d was sent, with the number %d; %d of %d are done", place, x.w.Num(place), x.done, x.wait)
		}
		x.put(now, onWire{data: true, own: own})
	}
	if x.w.Open() > x.size {
		t.Fatalf("%d are open, but the window has only %d places", x.w.Open(), x.size)
	}
}

func TestAllIsDoneOverABadWire(t *testing.T) {
	for seed := range int64(100) {
		r := rand.New(rand.NewSource(seed))
		size, timeout := 1+r.Intn(32), 1+r.Intn(12)
		x := &world{r: r, w: moved(t, size, timeout, 65500), size: size, wait: 65500 + 150, done: 65500, next: 65500, held: map[int]int{}, bad: true}
		now := 0
		for ; now < 300; now++ {
			x.tick(t, now)
		}
		// Nothing fails any more: each round of a timeout and the way there and back brings the first one at least.
		x.bad = false
		for ; x.done < x.wait; now++ {
			if now > 300+200*(timeout+30) {
				t.Fatalf("row %d: only %d of 150 are done", seed, x.done-65500)
			}
			x.tick(t, now)
		}
		if x.next != x.wait {
			t.Fatalf("row %d: all are done, but the other end has only %d", seed, x.next-65500)
		}
		wantOpen(t, x.w, 0)
	}
}

// R5

func TestAWindowThatNoCallMade(t *testing.T) {
	for _, w := range []*Window{nil, {}, New(0, 1), New(1, 0)} {
		for range 2 {
			wantBase(t, w, 0)
			wantOpen(t, w, 0)
			for _, i := range append([]int{7}, far...) {
				if got := w.Num(i); got != 0 {
					t.Errorf("Num(%d): %d", i, got)
				}
				wantSend(t, w, i, 0)
				wantSend(t, w, 5, i)
				wantAck(t, w, uint16(i), math.MaxUint64, 0)
			}
			w.Reset()
		}
		if w != nil && *w != (Window{}) {
			t.Errorf("a zero one has changed: %+v", *w)
		}
	}
}

// R3, R4

func TestAnswersAreNewMemory(t *testing.T) {
	w, other := made(t, 8, 1), made(t, 8, 1)
	one, two := w.Send(8, 0), w.Send(8, 1)
	for _, l := range [][]int{one, two} {
		l = l[:cap(l)]
		for i := range l {
			l[i] = -99
		}
		if &one[0] == &two[0] {
			t.Fatal("two answers share memory")
		}
	}
	other.Send(8, 0)
	other.Send(8, 1)
	if *w != *other {
		t.Errorf("a change of an answer has changed the window: %+v", *w)
	}
	wantSend(t, w, 8, 2, first(8)...)
}

func TestWindowsAreApart(t *testing.T) {
	w, other := made(t, 4, 2), made(t, 4, 2)
	wantSend(t, w, 4, 0, 0, 1, 2, 3)
	wantAck(t, w, 2, 1, 2)
	wantPlain(t, "another one", other, newPlain(4, 2))
	// A copy of its value goes on by itself.
	same := *w
	wantSend(t, &same, 4, 5, 0, 2, 3)
	wantAck(t, &same, 6, 0, 4)
	wantBase(t, w, 2)
	wantOpen(t, w, 1)
	wantSend(t, w, 4, 1, 2, 3)
	w.Reset()
	wantBase(t, &same, 6)
}
