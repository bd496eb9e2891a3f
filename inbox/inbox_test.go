package inbox

import (
	"fmt"
	"math"
	"math/rand"
	"testing"

	"staith/api"
	"staith/window"
)

// made is New, which must make one.
func made(t *testing.T, size int) *Inbox {
	t.Helper()
	x := New(size)
	if x == nil {
		t.Fatalf("New(%d) made none", size)
	}
	return x
}

func wantTake(t *testing.T, x *Inbox, num uint16, m api.Message, want bool) {
	t.Helper()
	if got := x.Take(num, m); got != want {
		t.Fatalf("Take(%d, %v): %v, want %v", num, m, got, want)
	}
}

func wantHead(t *testing.T, x *Inbox, want api.Message, is bool) {
	t.Helper()
	if got, ok := x.Head(); got != want || ok != is {
		t.Fatalf("Head: %v %v, want %v %v", got, ok, want, is)
	}
}

func wantPop(t *testing.T, x *Inbox, want bool) {
	t.Helper()
	if got := x.Pop(); got != want {
		t.Fatalf("Pop: %v, want %v", got, want)
	}
}

func wantAck(t *testing.T, x *Inbox, num uint16, set uint64) {
	t.Helper()
	if n, s := x.Ack(); n != num || s != set {
		t.Fatalf("Ack: %d %#x, want %d %#x", n, s, num, set)
	}
	if got := x.Next(); got != num {
		t.Fatalf("Next: %d, want %d", got, num)
	}
}

func wantHeld(t *testing.T, x *Inbox, want int) {
	t.Helper()
	if got := x.Held(); got != want {
		t.Fatalf("Held: %d, want %d", got, want)
	}
}

// moved is an empty inbox whose Next is that number, and the plain one. (It is set, not gone up to by calls: that would take too long.)
func moved(t *testing.T, size int, next uint16) (*Inbox, *plain) {
	t.Helper()
	x, p := made(t, size), newPlain(size)
	x.next, p.next = next, int(next)
	wantLook(t, "moved", x, p)
	return x, p
}

func TestExampleOfTheChapter(t *testing.T) {
	x := made(t, 4)
	a, b := api.Message{Body: "a"}, api.Message{Body: "b"}
	wantTake(t, x, 1, b, true)
	wantAck(t, x, 0, 1)
	wantTake(t, x, 0, a, true)
	wantHead(t, x, a, true)
	wantPop(t, x, true)
	wantAck(t, x, 1, 0)
}

// P21.1

func TestNewOfEachSize(t *testing.T) {
	for size := 1; size <= 32; size++ {
		x := made(t, size)
		wantPlain(t, fmt.Sprintf("New(%d)", size), x, newPlain(size))
		wantHead(t, x, api.Message{}, false)
		wantPop(t, x, false)
		wantAck(t, x, 0, 0)
		wantHeld(t, x, 0)
		// As many as size, the farthest first.
		for n := size - 1; n >= 0; n-- {
			wantTake(t, x, uint16(n), message(n), true)
			wantHeld(t, x, size-n)
		}
		wantTake(t, x, uint16(size), message(size), false)
		wantHeld(t, x, size)
	}
}

func TestNewOfWhatMayNotBe(t *testing.T) {
	for _, size := range []int{0, -1, -2, -32, 33, 34, 64, 65, 1000, 65536, 65537, 1<<32 + 1, -1<<32 + 1, math.MinInt, math.MinInt + 1, math.MinInt32, math.MaxInt32, math.MaxInt - 1, math.MaxInt} {
		if New(size) != nil {
			t.Errorf("New(%d) made one", size)
		}
	}
}

func TestTakeOfEachNumber(t *testing.T) {
	odd := message(1234)
	for _, next := range []uint16{0, 1, 5, 32767, 32768, 40000, 65504, 65520, 65535} {
		for _, size := range []int{1, 2, 7, 31, 32} {
			x, _ := moved(t, size, next)
			for i := range 65536 {
				if far := int(uint16(i) - next); far < size {
					wantTake(t, x, uint16(i), message(i), true)
				} else {
					wantTake(t, x, uint16(i), odd, false)
				}
			}
			// Each that was taken stays as it came; what was not taken left nothing behind.
			wantHeld(t, x, size)
			for far := range size {
				wantTake(t, x, next+uint16(far), message(3), false)
			}
			for far := range size {
				num := next + uint16(far)
				wantAck(t, x, num, 1<<(size-1-far)-1)
				wantHead(t, x, message(int(num)), true)
				wantPop(t, x, true)
				wantHeld(t, x, size-1-far)
			}
			wantHead(t, x, api.Message{}, false)
			wantPop(t, x, false)
			wantAck(t, x, next+uint16(size), 0)
		}
	}
}

func TestTakeOfWhatIsHeldLeavesIt(t *testing.T) {
	x := made(t, 3)
	wantTake(t, x, 1, message(1), true)
	wantTake(t, x, 1, message(2), false)
	wantTake(t, x, 1, message(1), false)
	wantTake(t, x, 0, message(0), true)
	wantTake(t, x, 0, message(5), false)
	wantHeld(t, x, 2)
	wantHead(t, x, message(0), true)
	wantPop(t, x, true)
	wantHead(t, x, message(1), true)
	// What went is not taken again: its number is behind.
	wantTake(t, x, 0, message(0), false)
	wantTake(t, x, 65535, message(0), false)
	wantPop(t, x, true)
	wantTake(t, x, 1, message(1), false)
	wantAck(t, x, 2, 0)
}

func TestAnEmptyMessageIsHeldToo(t *testing.T) {
	x := made(t, 2)
	wantTake(t, x, 0, api.Message{}, true)
	wantTake(t, x, 1, api.Message{}, true)
	wantTake(t, x, 0, message(1), false)
	wantHeld(t, x, 2)
	wantHead(t, x, api.Message{}, true)
	wantAck(t, x, 0, 1)
	wantPop(t, x, true)
	wantHead(t, x, api.Message{}, true)
	wantPop(t, x, true)
	wantHead(t, x, api.Message{}, false)
	wantPop(t, x, false)
	wantAck(t, x, 2, 0)
}

func TestAnyMessageIsHeld(t *testing.T) {
	// An inbox does not ask whether a message may be.
	odd := []api.Message{
		{Ident: api.Ident{Origin: -1, Seq: math.MaxUint64}, Hop: math.MinInt, Exchange: "\x00", Key: "..", Body: "\xff"},
		{Ident: api.Ident{Origin: math.MaxInt}, Hop: math.MaxInt, Body: string(make([]byte, 5000))},
	}
	x := made(t, 2)
	for i, m := range odd {
		wantTake(t, x, uint16(i), m, true)
	}
	for _, m := range odd {
		wantHead(t, x, m, true)
		wantHead(t, x, m, true)
		wantPop(t, x, true)
	}
}

func TestHeadIsOfNextAlone(t *testing.T) {
	x := made(t, 32)
	for n := uint16(1); n < 32; n++ {
		wantTake(t, x, n, message(int(n)), true)
		wantHead(t, x, api.Message{}, false)
		wantPop(t, x, false)
		wantHeld(t, x, int(n))
	}
	wantAck(t, x, 0, 1<<31-1)
	wantTake(t, x, 0, message(0), true)
	for n := range 32 {
		wantHead(t, x, message(n), true)
		wantPop(t, x, true)
	}
	wantHeld(t, x, 0)
}

func TestResetIsAsNewMadeIt(t *testing.T) {
	for seed := range int64(300) {
		r := rand.New(rand.NewSource(seed))
		size := 1 + r.Intn(32)
		x, p := moved(t, size, uint16(r.Intn(3)*65500%65536))
		for range r.Intn(80) {
			someCall(r, p).do(t, "ahead of Reset: ", x, p)
		}
		for range 1 + r.Intn(2) {
			x.Reset()
			wantPlain(t, "Reset", x, newPlain(size))
		}
		wantTake(t, x, uint16(size), message(1), false)
		wantTake(t, x, uint16(size-1), message(1), true)
	}
}

// P21.2

func TestAckOfEachSet(t *testing.T) {
	for _, next := range []uint16{0, 9, 32767, 65527, 65533, 65535} {
		empty, _ := moved(t, 9, next)
		for set := range uint64(512) {
			x := copied(empty)
			for k := range uint16(9) {
				if set>>k&1 == 1 {
					wantTake(t, x, next+k, message(int(k)), true)
				}
			}
			// The lowest bit is of Next itself, which is in no set.
			wantAck(t, x, next, set/2)
		}
	}
}

func TestAckOfEachPlace(t *testing.T) {
	for size := 1; size <= 32; size++ {
		for _, next := range []uint16{0, 65520} {
			empty, _ := moved(t, size, next)
			for k := range size - 1 {
				x := copied(empty)
				wantTake(t, x, next+1+uint16(k), message(k), true)
				wantAck(t, x, next, 1<<k)
				wantTake(t, x, next, message(9), true)
				wantAck(t, x, next, 1<<k)
				for i := range k + 1 {
					wantPop(t, x, true)
					if i < k {
						wantAck(t, x, next+1+uint16(i), 1<<(k-1-i))
						wantTake(t, x, next+1+uint16(i), message(i), true)
					}
				}
				wantAck(t, x, next+1+uint16(k), 0)
				wantHead(t, x, message(k), true)
				wantPop(t, x, true)
				wantHeld(t, x, 0)
			}
		}
	}
}

func TestAckChangesNothing(t *testing.T) {
	x := made(t, 8)
	wantTake(t, x, 3, message(3), true)
	wantTake(t, x, 0, message(0), true)
	for range 3 {
		wantAck(t, x, 0, 4)
		wantHeld(t, x, 2)
		wantHead(t, x, message(0), true)
	}
}

// All short rows of calls, and long ones, held against the chapter's words.

func shortCalls(size, left int) []call {
	l := []call{{kind: 'r'}, {kind: 'p'}}
	for by := -1; by <= size; by++ {
		l = append(l, call{kind: 't', by: by, m: message(10*left + by + 1)})
	}
	return l
}

func walk(t *testing.T, row string, x *Inbox, p *plain, left int) {
	for _, c := range shortCalls(p.size, left) {
		other, q := copied(x), p.copy()
		c.do(t, row, other, q)
		if left > 1 {
			walk(t, row+c.String()+" ", other, q, left-1)
		} else {
			wantPlain(t, row+c.String(), other, q)
		}
	}
}

func TestAllShortRows(t *testing.T) {
	for size := 1; size <= 3; size++ {
		for _, next := range []uint16{0, 65534} {
			x, p := moved(t, size, next)
			walk(t, fmt.Sprintf("New(%d), next %d: ", size, next), x, p, 5)
		}
	}
}

// someCall is any call, mostly one that changes something.
func someCall(r *rand.Rand, p *plain) call {
	switch n := r.Intn(100); {
	case n == 0:
		return call{kind: 'r'}
	case n < 45:
		return call{kind: 'p'}
	case n < 50:
		return call{kind: 't', by: r.Intn(65536) - 32768, m: message(r.Intn(1000))}
	case n < 65:
		return call{kind: 't', m: message(r.Intn(1000))}
	}
	return call{kind: 't', by: r.Intn(p.size+4) - 2, m: message(r.Intn(1000))}
}

func TestLongRows(t *testing.T) {
	for seed := range int64(200) {
		r := rand.New(rand.NewSource(seed))
		x, p := moved(t, 1+r.Intn(32), []uint16{0, 32760, 65500}[r.Intn(3)])
		for range 600 {
			someCall(r, p).do(t, fmt.Sprintf("row %d: ", seed), x, p)
		}
		wantPlain(t, fmt.Sprintf("row %d", seed), x, p)
	}
}

// P21.3

func TestWhatIsLateIsNotTaken(t *testing.T) {
	// What came out is late by each number of the circle that lies behind Next, up to those that are to come.
	odd := message(1234)
	for _, size := range []int{1, 2, 5, 32} {
		x, p := moved(t, size, 65535)
		for range 4 {
			for late := 1; late <= 65536-size; late++ {
				wantTake(t, x, uint16(p.next-late+65536), odd, false)
			}
			wantLook(t, "late", x, p)
			call{kind: 't', m: message(p.next)}.do(t, "in time", x, p)
			call{kind: 'p'}.do(t, "in time", x, p)
		}
	}
}

// onWire is something that comes at a tick: what waits, by its own number, or an ack.
type onWire struct {
	at   int
	data bool
	num  uint16
	own  int
	set  uint64
}

// world is a window and an inbox of one size, and a wire between them that loses, doubles and is late.
type world struct {
	r     *rand.Rand
	out   *window.Window
	in    *Inbox
	wait  int // how many there are in all
	done  int // how many of them the window told to be done
	came  int // how many came out
	taken map[int]int
	wire  []onWire
	bad   bool
}

// put lays something on the wire, or does not, or more than once.
func (w *world) put(now int, o onWire) {
	times := 1
	if w.bad {
		times = w.r.Intn(4) - 1
	}
	for range times {
		o.at = now + 1
		if w.bad {
			o.at += w.r.Intn(30)
		}
		w.wire = append(w.wire, o)
	}
}

// come takes in what comes at a tick.
func (w *world) come(t *testing.T, now int) {
	t.Helper()
	var stay, come []onWire
	for _, o := range w.wire {
		if o.at <= now {
			come = append(come, o)
		} else {
			stay = append(stay, o)
		}
	}
	w.wire = stay
	for _, o := range come {
		if !o.data {
			w.done += w.out.Ack(o.num, o.set)
			continue
		}
		if w.in.Take(o.num, message(o.own)) {
			w.taken[o.own]++
		}
		w.drain(t)
		num, set := w.in.Ack()
		w.put(now, onWire{num: num, set: set})
	}
}

// drain: what can comes out, not always all of it.
func (w *world) drain(t *testing.T) {
	t.Helper()
	for !w.bad || w.r.Intn(3) > 0 {
		m, ok := w.in.Head()
		if ok && (m != message(w.came) || w.taken[w.came] != 1) {
			t.Fatalf("%v comes out, taken %d times, but %v is to come", m, w.taken[w.came], message(w.came))
		}
		if w.in.Pop() != ok {
			t.Fatalf("Head says %v, but Pop does not", ok)
		}
		if !ok {
			return
		}
		w.came++
	}
}

func (w *world) tick(t *testing.T, now int) {
	t.Helper()
	w.come(t, now)
	for _, place := range w.out.Send(w.wait-w.done, now) {
		w.put(now, onWire{data: true, num: w.out.Num(place), own: w.done + place})
	}
	if w.done > w.came {
		t.Fatalf("%d are done, but only %d came out", w.done, w.came)
	}
}

func TestAWindowAndAnInboxBringAll(t *testing.T) {
	for seed := range int64(120) {
		r := rand.New(rand.NewSource(seed))
		size, timeout := 1+r.Intn(32), 1+r.Intn(12)
		in, _ := moved(t, size, 65500)
		out := window.New(size, timeout)
		for at := 0; at < 65500; at += out.Ack(uint16(at+min(size, 65500-at)), 0) {
			out.Send(min(size, 65500-at), 0)
		}
		w := &world{r: r, out: out, in: in, wait: 65500 + 200, done: 65500, came: 65500, taken: map[int]int{}, bad: true}
		now := 0
		for ; now < 300; now++ {
			w.tick(t, now)
		}
		// Nothing fails any more.
		w.bad = false
		for ; w.done < w.wait; now++ {
			if now > 300+250*(timeout+40) {
				t.Fatalf("row %d: of 200 only %d are done, and %d came out", seed, w.done-65500, w.came-65500)
			}
			w.tick(t, now)
		}
		if w.came != w.wait || in.Held() != 0 || in.Next() != uint16(w.wait-65536) {
			t.Fatalf("row %d: all are done, but %d came out, %d are held, and Next is %d", seed, w.came-65500, in.Held(), in.Next())
		}
	}
}

// R5

func TestAnInboxThatNoCallMade(t *testing.T) {
	for _, x := range []*Inbox{nil, {}, New(0), New(33)} {
		for range 2 {
			for _, num := range []uint16{0, 1, 31, 65535} {
				wantTake(t, x, num, message(1), false)
			}
			wantHead(t, x, api.Message{}, false)
			wantPop(t, x, false)
			wantAck(t, x, 0, 0)
			wantHeld(t, x, 0)
			x.Reset()
		}
		if x != nil && (x.size != 0 || x.next != 0 || x.held != nil) {
			t.Errorf("a zero one has changed: %+v", *x)
		}
	}
}

// R4

func TestInboxesAreApart(t *testing.T) {
	x, other := made(t, 4), made(t, 4)
	wantTake(t, x, 0, message(0), true)
	wantTake(t, x, 2, message(2), true)
	wantPop(t, x, true)
	wantPlain(t, "another one", other, newPlain(4))
	wantTake(t, other, 2, message(5), true)
	other.Reset()
	wantAck(t, x, 1, 1)
	wantTake(t, x, 1, message(1), true)
	wantPop(t, x, true)
	wantHead(t, x, message(2), true)
}

func TestNoMoreIsKeptThanIsHeld(t *testing.T) {
	x := made(t, 32)
	for n := range 70000 {
		wantTake(t, x, uint16(n%65536), message(1), true)
		wantTake(t, x, uint16((n+40)%65536), message(1), false)
		wantHeld(t, x, 1)
		wantPop(t, x, true)
	}
	if len(x.held) != 0 {
		t.Errorf("%d are kept of what came out", len(x.held))
	}
}
