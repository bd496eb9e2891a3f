package wire

import (
	"fmt"
	"math"
	"math/rand"
	"slices"
	"testing"

	"staith/api"
	"staith/packet"
)

// ends are numbers that are no place of a short list.
var ends = []int{math.MinInt, math.MinInt + 1, -1 << 32, -256, -2, -1, 1 << 16, 1 << 31, 1 << 32, math.MaxInt - 1, math.MaxInt}

func wantErr(t *testing.T, what string, got, want api.Errno) {
	t.Helper()
	if got != want {
		t.Fatalf("%s: %v, want %v", what, got, want)
	}
}

func TestExampleOfTheChapter(t *testing.T) {
	w, _ := both(t, 5, send(hello(1, 2, 5)), twice(0), take(0))
	if w.Len() != 1 {
		t.Fatalf("Len %d, want 1", w.Len())
	}
	wantErr(t, "Sever", w.Sever(api.Edge{From: 1, To: 2}), api.OK)
	was := w.Len()
	wantErr(t, "Send", w.Send(hello(1, 2, 5).p), api.OK)
	if w.Len() != was {
		t.Fatalf("Len %d, want %d", w.Len(), was)
	}
}

// P22.1

func TestNewOfWhatMayBe(t *testing.T) {
	for most := 1; most <= 2000; most++ {
		if New(most) == nil {
			t.Fatalf("New(%d) made none", most)
		}
	}
	for _, most := range []int{1, 2, 3, 7, 400, 1999, 2000} {
		w, p := both(t, most, manySends(most-1, hello(1, 2, 1)), send(ack(2, 1, 3, 4)))
		do(t, "full: ", w, p, send(hello(2, 1, 1)), send(hello(1, 2, 1)), twice(0), twice(most-1), twice(most))
		wantErr(t, "Send to a full one", w.Send(hello(1, 2, 1).p), api.ErrSpace)
		wantErr(t, "Twice of a full one", w.Twice(0), api.ErrSpace)
		do(t, "full: ", w, p, take(0), twice(0), drop(0), send(hello(3, 4, 5)), send(hello(3, 4, 5)))
	}
}

func TestNewOfWhatMayNotBe(t *testing.T) {
	for _, most := range append([]int{0, -2000, -1999, 2001, 2002, 4000, 1<<16 + 5, 1<<32 + 5, math.MinInt + 5, math.MinInt + 2000}, ends...) {
		if New(most) != nil {
			t.Errorf("New(%d) made one", most)
		}
	}
}

func TestSendOfAllThatMayBe(t *testing.T) {
	w, p := both(t, 2000)
	for _, k := range samples() {
		do(t, "", w, p, send(k))
	}
	for from := 1; from <= 8; from++ {
		for to := 1; to <= 8; to++ {
			if from != to {
				do(t, "", w, p, send(hello(from, to, 7)), send(data(from, to, 7, message(from*to))))
			}
		}
	}
	for i := range 40 {
		do(t, "", w, p, send(data(1, 2, uint16(i), message(i))))
	}
	// They leave as they came.
	for len(p.list) > 0 {
		do(t, "", w, p, take(0))
	}
}

func TestSendOfWhatMayNotBe(t *testing.T) {
	w, p := both(t, 3, send(hello(1, 2, 1)))
	full, q := both(t, 1, send(hello(1, 2, 1)))
	cut, r := both(t, 3, sever(1, 2))
	for _, bad := range badPackets() {
		wantErr(t, fmt.Sprintf("Send(%+v)", bad), w.Send(bad), api.ErrInput)
		wantErr(t, fmt.Sprintf("Send(%+v) to a full one", bad), full.Send(bad), api.ErrInput)
		wantErr(t, fmt.Sprintf("Send(%+v) on a severed way", bad), cut.Send(bad), api.ErrInput)
	}
	wantPlain(t, "bad packets", w, p)
	wantPlain(t, "bad packets", full, q)
	wantPlain(t, "bad packets", cut, r)
}

func TestASeveredWayIsAskedAheadOfTheRoom(t *testing.T) {
	w, p := both(t, 2, send(hello(1, 2, 1)), send(hello(2, 1, 1)), sever(3, 4))
	for _, k := range []known{hello(3, 4, 1), welcome(3, 4, 0), data(3, 4, 0, longest()), ack(3, 4, 0, 0)} {
		wantErr(t, "Send on a severed way of a full one", w.Send(k.p), api.OK)
	}
	do(t, "", w, p, send(hello(4, 3, 1)), mend(3, 4), send(hello(3, 4, 1)), take(1), send(hello(3, 4, 1)))
}

func TestPlacesThatAreNone(t *testing.T) {
	for n := range 4 {
		w, p := both(t, 3, manySends(n, hello(1, 2, 1)))
		for _, i := range append([]int{n, n + 1, n + 2, 3, 4}, ends...) {
			if i >= 0 && i < n {
				continue
			}
			for _, kind := range []string{"Look", "Take", "Drop", "Twice"} {
				c := call{kind: kind, i: i}
				k, err := c.ask(w)
				wantErr(t, fmt.Sprintf("%v of %d", c, n), err, api.ErrMissing)
				if k != (api.Packet{}) {
					t.Fatalf("%v of %d: %+v", c, n, k)
				}
			}
			wantErr(t, fmt.Sprintf("Flip(%d) of %d", i, n), w.Flip(i, 0, 0), api.ErrMissing)
			// Ahead of what else is wrong.
			wantErr(t, fmt.Sprintf("Flip(%d, -1, 8) of %d", i, n), w.Flip(i, -1, 8), api.ErrMissing)
		}
		wantPlain(t, "places that are none", w, p)
	}
}

func TestTakeAndDropAtEachPlace(t *testing.T) {
	for n := 1; n <= 6; n++ {
		for i := range n {
			for _, c := range []call{take(i), drop(i)} {
				w, p := both(t, 6)
				for k := range n {
					do(t, "", w, p, send(hello(1, 2, uint64(k+1))))
				}
				do(t, "", w, p, c, send(hello(2, 1, 9)), twice(0), c)
			}
		}
	}
}

func TestTakeOfADamagedOneLeaves(t *testing.T) {
	w, p := both(t, 4, send(hello(1, 2, 1)), send(hello(1, 2, 2)), send(hello(1, 2, 3)), flip(1, 7, 0))
	k, err := w.Take(1)
	wantErr(t, "Take of a damaged one", err, api.ErrDamage)
	if k != (api.Packet{}) || w.Len() != 2 {
		t.Fatalf("Take of a damaged one: %+v, Len %d", k, w.Len())
	}
	p.take(1)
	wantPlain(t, "Take of a damaged one", w, p)
}

func TestLookChangesNothing(t *testing.T) {
	w, p := both(t, 4, send(hello(1, 2, 1)), send(data(2, 1, 2, message(3))), flip(0, 0, 0))
	for range 3 {
		wantPlain(t, "Look", w, p)
	}
}

func TestTwiceIsTheLastOne(t *testing.T) {
	for _, k := range samples() {
		w, p := both(t, 7, send(hello(3, 2, 1)), send(k), send(hello(2, 3, 1)), twice(1), twice(0), twice(3), drop(1), twice(2))
		do(t, "", w, p, twice(0), twice(0), drop(0), drop(0), twice(4))
	}
}

func TestTwiceOfTwice(t *testing.T) {
	w, p := both(t, 30, send(data(1, 2, 3, message(4))))
	for len(p.list) < 30 {
		do(t, "", w, p, twice(len(p.list)-1))
	}
	do(t, "", w, p, twice(29), twice(0))
	for len(p.list) > 0 {
		do(t, "", w, p, take(len(p.list)/2))
	}
}

func TestFlipOfEachBit(t *testing.T) {
	for _, k := range samples() {
		w, p := both(t, 3, send(k), send(k))
		for at := range k.size {
			for bit := range 8 {
				// The first one is damaged by this bit alone; the second one stays right.
				v, q := copied(w), p.copy()
				do(t, "", v, q, flip(0, at, bit))
				_, err := v.Take(0)
				wantErr(t, fmt.Sprintf("Take of %+v, behind Flip(0, %d, %d)", k.p, at, bit), err, api.ErrDamage)
			}
		}
	}
}

func TestFlipTurnsThatBit(t *testing.T) {
	for _, k := range samples() {
		right := packet.Bytes(k.p)
		for at := range k.size {
			for bit := range 8 {
				w, _ := both(t, 1, send(k))
				if !slices.Equal(w.parcels[0].bytes, right) {
					t.Fatalf("%+v: the bytes are not its own: %v", k.p, w.parcels[0].bytes)
				}
				wantErr(t, "Flip", w.Flip(0, at, bit), api.OK)
				for n, b := range w.parcels[0].bytes {
					want := right[n]
					if n == at {
						want ^= []byte{1, 2, 4, 8, 16, 32, 64, 128}[bit]
					}
					if b != want {
						t.Fatalf("%+v: Flip(0, %d, %d): byte %d is %d, want %d", k.p, at, bit, n, b, want)
					}
				}
			}
		}
	}
}

func TestFlipOfWhatIsNoBit(t *testing.T) {
	for _, k := range samples() {
		w, p := both(t, 2, send(k), send(hello(1, 2, 1)))
		for _, damaged := range []bool{false, true} {
			if damaged {
				do(t, "", w, p, flip(0, 3, 3))
			}
			for _, at := range append([]int{k.size, k.size + 1, 1000}, ends...) {
				for bit := -1; bit <= 8; bit++ {
					wantErr(t, fmt.Sprintf("Flip(0, %d, %d) of %+v", at, bit, k.p), w.Flip(0, at, bit), api.ErrInput)
				}
			}
			for _, bit := range append([]int{8, 9, 15, 16, 64, 256}, ends...) {
				for _, at := range []int{0, k.size - 1} {
					wantErr(t, fmt.Sprintf("Flip(0, %d, %d) of %+v", at, bit, k.p), w.Flip(0, at, bit), api.ErrInput)
				}
			}
		}
		wantPlain(t, "what is no bit", w, p)
	}
}

func TestASecondBitIsNotTurned(t *testing.T) {
	for _, k := range samples() {
		w, p := both(t, 3, send(k), flip(0, 5, 2))
		for at := range k.size {
			for bit := range 8 {
				wantErr(t, fmt.Sprintf("a second Flip, (0, %d, %d)", at, bit), w.Flip(0, at, bit), api.ErrTaken)
			}
		}
		wantPlain(t, "a second Flip", w, p)
		// Nor of those that are made like it, and like these.
		do(t, "", w, p, twice(0), twice(1))
		for i := range 3 {
			for at := range k.size {
				wantErr(t, fmt.Sprintf("a second Flip, (%d, %d, 2)", i, at), w.Flip(i, at, 2), api.ErrTaken)
			}
		}
		do(t, "", w, p, drop(0), flip(0, 5, 2), drop(0), flip(0, 5, 2), flip(0, 4, 1), take(0))
	}
}

func TestOneThatIsMadeLikeAnotherIsApart(t *testing.T) {
	for _, k := range samples() {
		for first := range 3 {
			for second := range 3 {
				// Each was right when the one like it was made: a bit of each may be turned.
				w, p := both(t, 4, send(k), twice(0), twice(1))
				do(t, "", w, p, flip(first, k.size-1, 7), flip(second, 0, 0))
				do(t, "", w, p, flip(3-first-second, 6, 6), twice(0), flip(3, 1, 1))
			}
		}
	}
	w, p := both(t, 4, send(hello(1, 2, 3)), twice(0), flip(0, 1, 1), flip(1, 2, 2), take(0), take(0), send(hello(1, 2, 3)))
	do(t, "", w, p, flip(0, 1, 1), send(hello(1, 2, 3)), twice(1), flip(1, 1, 1), take(2), take(1), take(0))
}

// P22.2

func TestSeverOfEachWay(t *testing.T) {
	for from := -1; from <= 10; from++ {
		for to := -1; to <= 10; to++ {
			w, p := both(t, 70)
			for a := 1; a <= 8; a++ {
				for b := 1; b <= 8; b++ {
					if a != b {
						do(t, "", w, p, send(hello(a, b, 1)))
					}
				}
			}
			do(t, "", w, p, sever(from, to), sever(from, to), sever(to, from), mend(from, to), mend(from, to), sever(from, to))
		}
	}
}

func TestSeverOfWhatMayNotBe(t *testing.T) {
	w, p := both(t, 4, send(hello(1, 2, 1)), sever(3, 4))
	for _, n := range append([]int{0, 9, 10, 257, 1<<32 + 1, math.MinInt + 1}, ends...) {
		for _, e := range []api.Edge{{From: n, To: 2}, {From: 1, To: n}, {From: n, To: n}, {From: n}, {To: n}, {From: n, To: 9}} {
			wantErr(t, fmt.Sprintf("Sever(%v)", e), w.Sever(e), api.ErrInput)
			wantErr(t, fmt.Sprintf("Mend(%v)", e), w.Mend(e), api.ErrMissing)
		}
	}
	for n := range 10 {
		wantErr(t, fmt.Sprintf("Sever(%d, %d)", n, n), w.Sever(api.Edge{From: n, To: n}), api.ErrInput)
		wantErr(t, fmt.Sprintf("Mend(%d, %d)", n, n), w.Mend(api.Edge{From: n, To: n}), api.ErrMissing)
	}
	wantPlain(t, "ways that are none", w, p)
}

func TestSeverTakesAllThatAreRight(t *testing.T) {
	all := []call{
		send(hello(1, 2, 1)), send(welcome(1, 2, 0)), send(hello(2, 1, 2)), send(data(1, 2, 3, message(3))), send(ack(1, 2, 4, 4)),
		send(hello(1, 3, 5)), send(ack(3, 2, 6, 6)), send(data(1, 2, 7, message(7))), twice(0), twice(2),
	}
	for damaged := range 1 << 10 {
		w, p := both(t, 12, all...)
		for i := range 10 {
			if damaged>>i&1 == 1 {
				do(t, "", w, p, flip(i, i, i%8))
			}
		}
		do(t, "", w, p, sever(1, 2), send(hello(1, 2, 1)), send(hello(2, 1, 1)), sever(1, 2), take(0), sever(2, 1), mend(1, 2), send(hello(1, 2, 1)))
	}
}

func TestWhatIsDamagedStaysOnASeveredWay(t *testing.T) {
	w, p := both(t, 4, send(hello(1, 2, 1)), flip(0, 8, 1), send(hello(1, 2, 1)), sever(1, 2))
	if w.Len() != 1 {
		t.Fatalf("Len %d, want 1", w.Len())
	}
	// It may be doubled there, though nothing may be sent.
	do(t, "", w, p, twice(0), send(hello(1, 2, 2)), flip(1, 0, 0), take(0), drop(0), mend(1, 2), send(hello(1, 2, 3)))
}

func TestSeverIsOfThatWayAlone(t *testing.T) {
	w, p := both(t, 20, sever(1, 2), send(hello(2, 1, 1)), send(hello(1, 2, 1)), send(hello(1, 3, 1)), send(hello(3, 2, 1)))
	if w.Len() != 3 {
		t.Fatalf("Len %d, want 3", w.Len())
	}
	do(t, "", w, p, mend(2, 1), sever(2, 1), mend(1, 2), send(hello(1, 2, 1)), send(hello(2, 1, 1)), mend(2, 1), send(hello(2, 1, 1)))
}

func TestMendBringsNothingBack(t *testing.T) {
	w, p := both(t, 4, send(hello(1, 2, 1)), sever(1, 2), send(hello(1, 2, 2)), mend(1, 2))
	if w.Len() != 0 {
		t.Fatalf("Len %d, want 0", w.Len())
	}
	do(t, "", w, p, send(hello(1, 2, 3)), mend(1, 2), sever(1, 2), sever(1, 2), mend(1, 2), mend(1, 2))
}

func TestSeveredOfAllWays(t *testing.T) {
	var all []api.Edge
	for from := 1; from <= 8; from++ {
		for to := 1; to <= 8; to++ {
			if from != to {
				all = append(all, api.Edge{From: from, To: to})
			}
		}
	}
	for seed := range int64(40) {
		r := rand.New(rand.NewSource(seed))
		r.Shuffle(len(all), func(i, k int) { all[i], all[k] = all[k], all[i] })
		w, p := both(t, 3)
		for _, e := range all {
			do(t, "", w, p, sever(e.From, e.To))
		}
		for _, e := range all {
			do(t, "", w, p, send(hello(e.From, e.To, 1)))
		}
		r.Shuffle(len(all), func(i, k int) { all[i], all[k] = all[k], all[i] })
		for _, e := range all {
			do(t, "", w, p, mend(e.From, e.To))
		}
		if len(w.severed) != 0 {
			t.Fatalf("%d ways are kept that were mended", len(w.severed))
		}
	}
}

// All short rows of calls, and long ones, held against the chapter's words.

func shortCalls() []call {
	return []call{
		send(hello(1, 2, 1)), send(ack(2, 1, 1, 1)),
		take(0), take(1), drop(0), twice(0), twice(1),
		flip(0, 0, 0), flip(1, 18, 7), flip(0, 19, 7),
		sever(1, 2), sever(2, 1), mend(1, 2),
	}
}

func walk(t *testing.T, row string, w *Wire, p *plain, left int) {
	for _, c := range shortCalls() {
		v, q := copied(w), p.copy()
		do(t, row, v, q, c)
		if left > 1 {
			walk(t, row+c.String()+" ", v, q, left-1)
		}
	}
}

func TestAllShortRows(t *testing.T) {
	for most, left := range map[int]int{1: 4, 2: 5, 3: 4} {
		w, p := both(t, most)
		walk(t, fmt.Sprintf("New(%d) ", most), w, p, left)
	}
}

// someCall is any call, mostly one that changes something.
func someCall(r *rand.Rand, p *plain, n int) call {
	i := r.Intn(len(p.list)+2) - 1
	from, to := 1+r.Intn(3), 1+r.Intn(3)
	switch r.Intn(12) {
	case 0:
		return take(i)
	case 1:
		return drop(i)
	case 2, 3:
		return twice(i)
	case 4, 5:
		return flip(i, r.Intn(34)-1, r.Intn(10)-1)
	case 6:
		return sever(from, to)
	case 7:
		return mend(from, to)
	case 8:
		return call{kind: "Look", i: i}
	}
	to = 1 + (from+r.Intn(2))%3
	return send([]known{hello(from, to, uint64(1+n)), welcome(from, to, uint64(n)), data(from, to, uint16(n), message(n)), ack(from, to, uint16(n), uint64(n))}[r.Intn(4)])
}

func TestLongRows(t *testing.T) {
	for seed := range int64(150) {
		r := rand.New(rand.NewSource(seed))
		w, p := both(t, 1+r.Intn(40))
		for n := range 300 {
			do(t, fmt.Sprintf("row %d: ", seed), w, p, someCall(r, p, n))
		}
	}
}

// P22.3

func TestWhatIsTakenWasSent(t *testing.T) {
	for seed := range int64(60) {
		r := rand.New(rand.NewSource(seed))
		w := New(2000)
		// How often each may come: once, and once more for each time that one of it was doubled.
		may := map[api.Packet]int{}
		for n := range 400 {
			k := someCall(r, &plain{}, n)
			for k.kind != "Send" {
				k = someCall(r, &plain{}, n)
			}
			if w.Send(k.k.p) == api.OK {
				may[k.k.p]++
			}
			for range r.Intn(4) {
				i := r.Intn(max(w.Len(), 1))
				if p, err := w.Look(i); w.Twice(i) == api.OK && err == api.OK {
					may[p]++
				}
			}
			for range r.Intn(6) {
				w.Flip(r.Intn(max(w.Len(), 1)), r.Intn(60), r.Intn(8))
			}
			for range r.Intn(3) {
				taken(t, w, r.Intn(max(w.Len(), 1)), may)
			}
		}
		for left := w.Len(); left > 0; left-- {
			taken(t, w, r.Intn(left), may)
		}
		if w.Len() != 0 {
			t.Fatalf("%d are left of all that were taken", w.Len())
		}
	}
}

// taken takes one, which must be damaged, or one of those that may come.
func taken(t *testing.T, w *Wire, i int, may map[api.Packet]int) {
	t.Helper()
	p, err := w.Take(i)
	if err == api.OK {
		may[p]--
	}
	if err == api.OK && may[p] < 0 || err != api.OK && p != (api.Packet{}) {
		t.Fatalf("Take(%d): %+v, %v, which nobody sent, or not so often", i, p, err)
	}
}

// R5

func TestAWireThatNoCallMade(t *testing.T) {
	for _, w := range []*Wire{nil, {}, New(0), New(2001)} {
		for range 2 {
			for _, k := range samples() {
				wantErr(t, "Send", w.Send(k.p), api.ErrUnmade)
			}
			for _, bad := range badPackets() {
				wantErr(t, "Send", w.Send(bad), api.ErrUnmade)
			}
			for _, i := range append([]int{0, 1}, ends...) {
				for _, kind := range []string{"Look", "Take", "Drop", "Twice", "Flip"} {
					k, err := call{kind: kind, i: i}.ask(w)
					wantErr(t, kind, err, api.ErrUnmade)
					if k != (api.Packet{}) {
						t.Fatalf("%s: %+v", kind, k)
					}
				}
				wantErr(t, "Flip", w.Flip(i, i, i), api.ErrUnmade)
				for _, e := range []api.Edge{{From: 1, To: 2}, {From: i, To: i}, {}} {
					wantErr(t, "Sever", w.Sever(e), api.ErrUnmade)
					wantErr(t, "Mend", w.Mend(e), api.ErrUnmade)
				}
			}
			if w.Len() != 0 || len(w.Severed()) != 0 {
				t.Fatalf("Len %d, Severed %v", w.Len(), w.Severed())
			}
		}
		if w != nil && (w.most != 0 || w.parcels != nil || w.severed != nil) {
			t.Errorf("a zero one has changed: %+v", *w)
		}
	}
}

// R3

func TestSeveredIsNewMemory(t *testing.T) {
	w, p := both(t, 3, sever(1, 2), sever(5, 4), sever(8, 1))
	l := w.Severed()
	for i := range l[:cap(l)] {
		l[:cap(l)][i] = api.Edge{From: 7, To: 6}
	}
	other := append(l, api.Edge{From: 6, To: 7})
	wantPlain(t, "what was answered is changed", w, p)
	w.Severed()
	do(t, "", w, p, mend(5, 4), sever(2, 1))
	if !slices.Equal(other, []api.Edge{{From: 7, To: 6}, {From: 7, To: 6}, {From: 7, To: 6}, {From: 6, To: 7}}) {
		t.Errorf("an answer is changed by later calls: %v", other)
	}
}

// R4

func TestWiresAreApart(t *testing.T) {
	w, p := both(t, 3, send(hello(1, 2, 1)), sever(2, 1))
	v, q := both(t, 3, send(hello(2, 1, 1)), sever(1, 2))
	do(t, "", w, p, twice(0), flip(0, 3, 3))
	wantPlain(t, "another one", v, q)
	do(t, "", v, q, take(0), mend(1, 2), send(hello(1, 2, 2)))
	wantPlain(t, "another one", w, p)
}

func TestNoMoreIsKeptThanIsThere(t *testing.T) {
	w := New(3)
	for range 20000 {
		wantErr(t, "Send", w.Send(hello(1, 2, 1).p), api.OK)
		wantErr(t, "Twice", w.Twice(0), api.OK)
		wantErr(t, "Flip", w.Flip(1, 1, 1), api.OK)
		wantErr(t, "Sever", w.Sever(api.Edge{From: 1, To: 2}), api.OK)
		wantErr(t, "Mend", w.Mend(api.Edge{From: 1, To: 2}), api.OK)
		wantErr(t, "Drop", w.Drop(0), api.OK)
	}
	if len(w.parcels) != 0 || cap(w.parcels) > 100 || len(w.severed) != 0 {
		t.Errorf("%d packets are kept, in room for %d, and %d ways", len(w.parcels), cap(w.parcels), len(w.severed))
	}
	for _, l := range w.parcels[:cap(w.parcels)] {
		if l.bytes != nil {
			t.Errorf("bytes are kept of what left: %v", l)
		}
	}
}
