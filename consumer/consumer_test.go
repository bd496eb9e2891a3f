package consumer

import (
	"fmt"
	"math"
	"reflect"
	"slices"
	"strconv"
	"strings"
	"testing"

	"staith/api"
)

const top = math.MaxUint64

// strange are numbers that are no client's.
var strange = []int{0, -1, -7, -1000, 1001, 1002, 2000, 1<<32 + 7, math.MinInt, math.MinInt + 1, math.MaxInt - 1, math.MaxInt}

// noNames are texts that are no name, each for another cause.
func noNames() []string {
	return []string{"", "A", "q.", ".", "a.b", "*", "#", " ", "q ", "\x00", "q\n", "\u00e9", "\xff", strings.Repeat("q", api.MaxName+1), strings.Repeat("q", 5000)}
}

// wantErr holds an Errno against another one.
func wantErr(t *testing.T, what string, got, want api.Errno) {
	t.Helper()
	if got != want {
		t.Errorf("%s: %v, want %v", what, got, want)
	}
}

// wantNext: is that client the next one of a queue? 0: nobody.
func wantNext(t *testing.T, d *Desk, queue string, want int) {
	t.Helper()
	if got, is := d.Next(queue); got != want || is != (want != 0) {
		t.Errorf("Next(%q): %d %v, want %d", queue, got, is, want)
	}
}

// wantHold: does a client want that queue's, and hold these tags?
func wantHold(t *testing.T, d *Desk, client int, queue string, tags ...uint64) {
	t.Helper()
	if got, is := d.Hold(client); !is || !alike(got, Held{queue, tags}) {
		t.Errorf("Hold(%d): %v %v, want %s %v", client, got, is, queue, tags)
	}
}

// wantNothing: does a client want nothing?
func wantNothing(t *testing.T, d *Desk, client int) {
	t.Helper()
	if got, is := d.Hold(client); is || got.Queue != "" || got.Tags != nil {
		t.Errorf("Hold(%d): %v %v, but it wants nothing", client, got, is)
	}
}

func wantList(t *testing.T, what string, got []int, want ...int) {
	t.Helper()
	if !slices.Equal(got, want) {
		t.Errorf("%s: %v, want %v", what, got, want)
	}
}

// crowd is Add of count clients from 1 on, of one queue, each of which may hold most.
func crowd(queue string, count, most int) []call {
	var l []call
	for i := range count {
		l = append(l, add(i+1, queue, most))
	}
	return l
}

// P17.1

func TestNewIsEmpty(t *testing.T) {
	d := New()
	wantPlain(t, "new", d, &plain{})
	wantList(t, "Clients", d.Clients())
	wantList(t, "Forget", d.Forget("q"))
	other := New()
	other.Add(1, "q", 1)
	wantPlain(t, "beside another one", d, &plain{})
}

func TestExample(t *testing.T) {
	d := New()
	wantErr(t, "Add 1", d.Add(1, "q", 1), api.OK)
	wantErr(t, "Add 2", d.Add(2, "q", 1), api.OK)
	wantNext(t, d, "q", 1)
	wantErr(t, "Took", d.Took(1, 5), api.OK)
	wantNext(t, d, "q", 2)
	queue, err := d.Settle(1, 5)
	wantErr(t, "Settle", err, api.OK)
	if queue != "q" {
		t.Errorf("Settle: %q", queue)
	}
}

func TestAddTakesWhatMayBe(t *testing.T) {
	for _, client := range []int{1, 2, 500, 999, 1000} {
		for _, queue := range []string{"q", "-", "_", "0", "a-z_09", strings.Repeat("q", api.MaxName)} {
			for _, most := range []int{1, 2, 50, 99, 100} {
				d, p := behind(t, add(client, queue, most))
				wantPlain(t, "one client", d, p)
				wantHold(t, d, client, queue)
				wantNext(t, d, queue, client)
				wantList(t, "Clients", d.Clients(), client)
			}
		}
	}
}

func TestAddRefusesWhatMayNotBe(t *testing.T) {
	d, p := behind(t, add(7, "q", 2), took(7, 3))
	for _, client := range strange {
		wantErr(t, fmt.Sprint("client ", client), d.Add(client, "q", 1), api.ErrInput)
	}
	for _, queue := range noNames() {
		wantErr(t, fmt.Sprintf("queue %q", queue), d.Add(1, queue, 1), api.ErrInput)
		wantNext(t, d, queue, 0)
	}
	for _, most := range []int{0, -1, -100, 101, 102, 1000, 1<<32 + 1, math.MinInt, math.MaxInt} {
		wantErr(t, fmt.Sprint("most ", most), d.Add(1, "q", most), api.ErrInput)
	}
	wantPlain(t, "behind all that was refused", d, p)
}

func TestAddTwice(t *testing.T) {
	d, p := behind(t, add(7, "q", 2), add(8, "q", 1))
	wantErr(t, "the same", d.Add(7, "q", 2), api.ErrTaken)
	wantErr(t, "another queue", d.Add(7, "other", 2), api.ErrTaken)
	wantErr(t, "another most", d.Add(7, "q", 1), api.ErrTaken)
	wantPlain(t, "refused", d, p)
	d.Drop(7)
	wantErr(t, "behind Drop", d.Add(7, "other", 1), api.OK)
	wantHold(t, d, 7, "other")
}

func TestThirtyTwoClients(t *testing.T) {
	d, p := New(), &plain{}
	for i := range 32 {
		do(t, nil, add(1000-i, "q"+strconv.Itoa(i%3), 1), d, p)
	}
	wantPlain(t, "full", d, p)
	for _, client := range []int{1, 2, 968} {
		wantErr(t, "one more", d.Add(client, "q0", 1), api.ErrLimit)
	}
	wantPlain(t, "one more is refused", d, p)
	do(t, nil, drop(990), d, p)
	do(t, nil, add(1, "q0", 1), d, p)
	wantErr(t, "full again", d.Add(2, "q0", 1), api.ErrLimit)
	wantPlain(t, "full again", d, p)
	do(t, nil, forget("q1"), d, p)
	for i := range 12 {
		do(t, nil, add(100+i, "q1", 1), d, p)
	}
	wantPlain(t, "filled behind Forget", d, p)
}

func TestAddTellsTheFirstError(t *testing.T) {
	d, p := behind(t, crowd("q", 32, 1)...)
	wantErr(t, "taken, and full, and no name", d.Add(1, "Q", 1), api.ErrInput)
	wantErr(t, "taken, and full, and most 0", d.Add(1, "q", 0), api.ErrInput)
	wantErr(t, "full, and no client", d.Add(1001, "q", 1), api.ErrInput)
	wantErr(t, "taken, and full", d.Add(1, "q", 1), api.ErrTaken)
	wantErr(t, "full", d.Add(33, "q", 1), api.ErrLimit)
	wantPlain(t, "refused", d, p)
	_, err := new(Desk).Drop(-1)
	wantErr(t, "unmade, and no client", err, api.ErrUnmade)
	wantErr(t, "unmade, and no client", new(Desk).Add(-1, "", 0), api.ErrUnmade)
}

func TestAddIsTheLastOfTheLine(t *testing.T) {
	d, p := behind(t, add(9, "q", 1), add(3, "q", 1), add(5, "q", 1))
	for i, client := range []int{9, 3, 5} {
		wantNext(t, d, "q", client)
		do(t, nil, took(client, uint64(i+1)), d, p)
	}
	wantNext(t, d, "q", 0)
	do(t, nil, add(1, "q", 1), d, p)
	do(t, nil, settle(9, 1), d, p)
	// 9 took its message ahead of 1's coming.
	wantNext(t, d, "q", 9)
	do(t, nil, drop(9), d, p)
	do(t, nil, add(9, "q", 1), d, p)
	wantNext(t, d, "q", 1)
	wantLine(t, "the whole line", d, p, "q")
}

func TestDropTellsWhatWasHeld(t *testing.T) {
	d, p := behind(t, add(1, "q", 5), add(2, "q", 5), add(3, "other", 5), took(1, 9), took(2, 4), took(1, top), took(1, 2), took(3, 2))
	held, err := d.Drop(1)
	wantErr(t, "Drop", err, api.OK)
	if !alike(held, Held{"q", []uint64{2, 9, top}}) {
		t.Errorf("Drop: %v", held)
	}
	p.drop(1)
	wantPlain(t, "behind Drop", d, p)
	wantNothing(t, d, 1)
	wantHold(t, d, 2, "q", 4)
	wantHold(t, d, 3, "other", 2)
	held, err = d.Drop(1)
	wantErr(t, "Drop twice", err, api.ErrMissing)
	if held.Queue != "" || held.Tags != nil {
		t.Errorf("Drop twice: %v", held)
	}
	wantErr(t, "Took of a tag that was held", d.Took(2, 9), api.OK)
}

func TestDropOfOneThatHoldsNothing(t *testing.T) {
	d, p := behind(t, add(1, "q", 1), add(2, "q", 1))
	held, err := d.Drop(1)
	wantErr(t, "Drop", err, api.OK)
	if held.Queue != "q" || len(held.Tags) != 0 {
		t.Errorf("Drop: %v", held)
	}
	p.drop(1)
	wantPlain(t, "behind Drop", d, p)
}

func TestDropAtEachPlaceOfTheLine(t *testing.T) {
	for gone := 1; gone <= 5; gone++ {
		d, p := behind(t, crowd("q", 5, 2)...)
		do(t, nil, took(2, 1), d, p)
		do(t, nil, drop(gone), d, p)
		wantPlain(t, "behind Drop", d, p)
		wantLine(t, "behind Drop", d, p, "q")
	}
}

func TestCallsOfClientsThatWantNothing(t *testing.T) {
	d, p := behind(t, add(1, "q", 1), took(1, 1))
	for _, client := range append([]int{2, 1000}, strange...) {
		what := fmt.Sprint("client ", client)
		_, err := d.Drop(client)
		wantErr(t, what+": Drop", err, api.ErrMissing)
		for _, tag := range []uint64{0, 1, 2, top} {
			wantErr(t, what+": Took", d.Took(client, tag), api.ErrMissing)
			queue, err := d.Settle(client, tag)
			wantErr(t, what+": Settle", err, api.ErrMissing)
			if queue != "" {
				t.Errorf("%s: Settle: %q", what, queue)
			}
		}
		wantNothing(t, d, client)
	}
	wantPlain(t, "refused", d, p)
}

func TestForget(t *testing.T) {
	calls := []call{add(9, "q", 1), add(4, "other", 1), add(30, "q", 2), add(2, "q", 1), add(1000, "third", 1), took(30, 1), took(9, 2), took(4, 1)}
	d, p := behind(t, calls...)
	for _, queue := range append(noNames(), "nobody", "q2", "othe") {
		wantList(t, fmt.Sprintf("Forget(%q)", queue), d.Forget(queue))
	}
	wantPlain(t, "nobody is forgotten", d, p)
	wantList(t, "Forget", d.Forget("q"), 2, 9, 30)
	p.forget("q")
	wantPlain(t, "behind Forget", d, p)
	wantList(t, "Clients", d.Clients(), 4, 1000)
	wantNext(t, d, "q", 0)
	wantList(t, "Forget twice", d.Forget("q"))
	for _, client := range []int{2, 9, 30} {
		wantNothing(t, d, client)
		wantErr(t, "Took", d.Took(client, 7), api.ErrMissing)
	}
	do(t, nil, add(30, "q", 1), d, p)
	// What was held by those that are forgotten is held by nobody.
	do(t, nil, took(30, 2), d, p)
	wantPlain(t, "one is there again", d, p)
}

func TestForgetAll(t *testing.T) {
	d, p := behind(t, crowd("q", 32, 1)...)
	want := p.clients()
	wantList(t, "Forget", d.Forget("q"), want...)
	wantPlain(t, "behind Forget", d, &plain{})
	wantErr(t, "Add", d.Add(1, "q", 1), api.OK)
}

func TestClientsRise(t *testing.T) {
	d := New()
	for _, client := range []int{500, 1, 1000, 20, 3, 100, 2} {
		d.Add(client, "q"+strconv.Itoa(client%2), 1)
	}
	wantList(t, "Clients", d.Clients(), 1, 2, 3, 20, 100, 500, 1000)
	d.Took(1, 1)
	d.Drop(20)
	wantList(t, "Clients", d.Clients(), 1, 2, 3, 100, 500, 1000)
}

func TestHoldRises(t *testing.T) {
	d := New()
	d.Add(1, "q", 100)
	var want []uint64
	for i := range uint64(100) {
		wantErr(t, "Took", d.Took(1, i*37%101*1000000007+1), api.OK)
		want = append(want, i*37%101*1000000007+1)
	}
	slices.Sort(want)
	wantHold(t, d, 1, "q", want...)
	held, _ := d.Drop(1)
	if !alike(held, Held{"q", want}) {
		t.Errorf("Drop: %v", held)
	}
}

// P17.2

func TestNextOfQueues(t *testing.T) {
	d, p := behind(t, add(1, "a", 1), add(2, "b", 1), add(3, "a", 1), add(4, "b", 1))
	wantNext(t, d, "a", 1)
	wantNext(t, d, "b", 2)
	wantNext(t, d, "c", 0)
	wantNext(t, d, "", 0)
	do(t, nil, took(1, 1), d, p)
	wantNext(t, d, "a", 3)
	wantNext(t, d, "b", 2)
	do(t, nil, took(3, 2), d, p)
	wantNext(t, d, "a", 0)
	wantNext(t, d, "b", 2)
}

func TestNextChangesNothing(t *testing.T) {
	d, p := behind(t, crowd("q", 3, 1)...)
	for range 5 {
		wantNext(t, d, "q", 1)
	}
	wantLine(t, "behind Next", d, p, "q")
}

func TestNextPassesThoseThatAreFull(t *testing.T) {
	d, p := behind(t, add(1, "q", 1), add(2, "q", 2), add(3, "q", 1))
	do(t, nil, took(1, 1), d, p) // 2 3 1
	do(t, nil, took(2, 2), d, p) // 3 1 2
	do(t, nil, took(3, 3), d, p) // 1 2 3: 1 is full
	wantNext(t, d, "q", 2)
	do(t, nil, took(2, 4), d, p) // 1 3 2: all are full
	wantNext(t, d, "q", 0)
	do(t, nil, settle(2, 2), d, p)
	wantNext(t, d, "q", 2)
	do(t, nil, settle(3, 3), d, p)
	wantNext(t, d, "q", 3)
	do(t, nil, settle(1, 1), d, p)
	wantNext(t, d, "q", 1)
	wantLine(t, "all may have one", d, p, "q")
}

func TestTookOfOneThatIsNotNext(t *testing.T) {
	d, p := behind(t, crowd("q", 4, 3)...)
	do(t, nil, took(3, 1), d, p)
	wantNext(t, d, "q", 1)
	do(t, nil, took(4, 2), d, p)
	wantNext(t, d, "q", 1)
	do(t, nil, took(1, 3), d, p)
	wantNext(t, d, "q", 2)
	wantLine(t, "the whole line", d, p, "q")
}

func TestTookUpToMost(t *testing.T) {
	for _, most := range []int{1, 2, 3, 50, 99, 100} {
		d, p := behind(t, add(1, "q", most))
		for i := range most {
			wantNext(t, d, "q", 1)
			do(t, nil, took(1, uint64(i+1)), d, p)
		}
		wantNext(t, d, "q", 0)
		for _, tag := range []uint64{0, 1, 1000, top} {
			wantErr(t, "one more", d.Took(1, tag), api.ErrLimit)
		}
		wantPlain(t, "full", d, p)
		do(t, nil, settle(1, uint64(most)), d, p)
		wantErr(t, "one may be again", d.Took(1, 1000), api.OK)
		wantErr(t, "full again", d.Took(1, 1001), api.ErrLimit)
	}
}

func TestTookOfATagThatIsHeld(t *testing.T) {
	d, p := behind(t, add(1, "q", 3), add(2, "q", 3), add(3, "other", 3), took(1, 5), took(2, top))
	wantErr(t, "its own", d.Took(1, 5), api.ErrTaken)
	wantErr(t, "another one's", d.Took(2, 5), api.ErrTaken)
	wantErr(t, "another one's", d.Took(1, top), api.ErrTaken)
	wantPlain(t, "refused", d, p)
	wantNext(t, d, "q", 1)
	do(t, nil, took(3, 5), d, p)
	wantErr(t, "its own, of another queue", d.Took(3, 5), api.ErrTaken)
	do(t, nil, settle(1, 5), d, p)
	do(t, nil, took(2, 5), d, p)
	wantErr(t, "it has gone over", d.Took(1, 5), api.ErrTaken)
	wantPlain(t, "it has gone over", d, p)
}

func TestTookOfTheTagZero(t *testing.T) {
	d, p := behind(t, add(1, "q", 1), add(2, "q", 1))
	wantErr(t, "0", d.Took(1, 0), api.ErrInput)
	wantErr(t, "0 again", d.Took(1, 0), api.ErrInput)
	wantErr(t, "0 of another one", d.Took(2, 0), api.ErrInput)
	wantPlain(t, "refused", d, p)
	wantErr(t, "1", d.Took(1, 1), api.OK)
}

func TestTookTellsTheFirstError(t *testing.T) {
	d, p := behind(t, add(1, "q", 1), add(2, "q", 2), took(1, 5))
	wantErr(t, "nobody, and 0", d.Took(3, 0), api.ErrMissing)
	wantErr(t, "nobody, and held", d.Took(3, 5), api.ErrMissing)
	wantErr(t, "full, and 0", d.Took(1, 0), api.ErrLimit)
	wantErr(t, "full, and held", d.Took(1, 5), api.ErrLimit)
	wantErr(t, "held", d.Took(2, 5), api.ErrTaken)
	wantErr(t, "0", d.Took(2, 0), api.ErrInput)
	wantErr(t, "unmade, and 0", new(Desk).Took(1, 0), api.ErrUnmade)
	wantPlain(t, "refused", d, p)
	wantLine(t, "refused", d, p, "q")
}

func TestSettleOfWhatIsNotHeld(t *testing.T) {
	d, p := behind(t, add(1, "q", 3), add(2, "q", 3), add(3, "other", 3), took(1, 5), took(2, 6), took(3, 7))
	for _, c := range []struct {
		client int
		tag    uint64
	}{{1, 0}, {1, 4}, {1, 6}, {1, 7}, {2, 5}, {3, 5}, {3, 0}, {1, top}} {
		queue, err := d.Settle(c.client, c.tag)
		wantErr(t, fmt.Sprint("Settle of ", c), err, api.ErrStale)
		if queue != "" {
			t.Errorf("Settle of %v: %q", c, queue)
		}
	}
	wantPlain(t, "refused", d, p)
	do(t, nil, settle(1, 5), d, p)
	_, err := d.Settle(1, 5)
	wantErr(t, "Settle twice", err, api.ErrStale)
	wantPlain(t, "settled", d, p)
	_, err = new(Desk).Settle(1, 5)
	wantErr(t, "unmade", err, api.ErrUnmade)
}

func TestSettleLeavesTheLine(t *testing.T) {
	d, p := behind(t, crowd("q", 3, 2)...)
	do(t, nil, took(1, 1), d, p)
	do(t, nil, took(2, 2), d, p)
	do(t, nil, settle(2, 2), d, p)
	do(t, nil, settle(1, 1), d, p)
	wantNext(t, d, "q", 3)
	wantLine(t, "settled", d, p, "q")
}

// P17.3

// wantSound: is each tag of a queue held by one at most, and does nobody hold more than it may?
func wantSound(t *testing.T, d *Desk, mosts map[int]int) {
	t.Helper()
	holders := map[string]int{}
	for _, client := range d.Clients() {
		held, _ := d.Hold(client)
		if len(held.Tags) > mosts[client] {
			t.Fatalf("%d holds %v, and may hold %d", client, held.Tags, mosts[client])
		}
		for _, tag := range held.Tags {
			what := fmt.Sprint(held.Queue, " ", tag)
			if other, is := holders[what]; is {
				t.Fatalf("%s is held by %d and by %d", what, other, client)
			}
			holders[what] = client
		}
	}
}

func TestATagIsHeldByOne(t *testing.T) {
	seed := uint64(3)
	d, mosts := New(), map[int]int{}
	for range 20000 {
		client, tag, queue := 1+random(&seed, 12), uint64(random(&seed, 30)), string(rune('a'+random(&seed, 3)))
		switch random(&seed, 10) {
		case 0, 1:
			most := 1 + random(&seed, 6)
			if d.Add(client, queue, most) == api.OK {
				mosts[client] = most
			}
		case 2:
			d.Settle(client, tag)
		case 3:
			if random(&seed, 8) == 0 {
				d.Drop(client)
			}
		case 4:
			if random(&seed, 30) == 0 {
				d.Forget(queue)
			}
		default:
			d.Took(client, tag)
		}
		wantSound(t, d, mosts)
	}
}

func TestAllAreNextInTurn(t *testing.T) {
	for _, count := range []int{1, 2, 3, 16, 31} {
		d, _ := behind(t, append(crowd("q", count, 2), add(1000, "other", 100))...)
		tag := uint64(0)
		for round := range 5 {
			for want := 1; want <= count; want++ {
				wantNext(t, d, "q", want)
				tag++
				wantErr(t, "Took", d.Took(want, tag), api.OK)
				wantErr(t, "Took of another queue", d.Took(1000, tag), api.OK)
				d.Settle(1000, tag)
				if round > 0 {
					_, err := d.Settle(want, tag-uint64(count))
					wantErr(t, "Settle", err, api.OK)
				}
			}
		}
	}
}

func TestNobodyIsPassedForever(t *testing.T) {
	seed := uint64(11)
	d, _ := behind(t, crowd("q", 8, 3)...)
	waited := map[int]int{}
	for tag := uint64(1); tag <= 5000; tag++ {
		client, is := d.Next("q")
		if !is {
			t.Fatal("nobody is next, but all have settled")
		}
		for other := 1; other <= 8; other++ {
			waited[other]++
		}
		waited[client] = 0
		wantErr(t, "Took", d.Took(client, tag), api.OK)
		for other := 1; other <= 8; other++ {
			held, _ := d.Hold(other)
			if waited[other] > 8 {
				t.Fatalf("%d has waited for %d messages", other, waited[other])
			}
			// Each of them has room at each time: so all of them are next in each eight.
			for len(held.Tags) > random(&seed, 3) {
				i := random(&seed, len(held.Tags))
				d.Settle(other, held.Tags[i])
				held.Tags = slices.Delete(held.Tags, i, i+1)
			}
		}
	}
}

// A Desk that no call made

func TestUnmadeDesks(t *testing.T) {
	zero := &Desk{}
	for what, d := range map[string]*Desk{"nil": nil, "the zero value": zero} {
		for range 2 {
			for _, client := range append([]int{1, 2}, strange...) {
				wantErr(t, what+": Add", d.Add(client, "q", 1), api.ErrUnmade)
				held, err := d.Drop(client)
				wantErr(t, what+": Drop", err, api.ErrUnmade)
				if held.Queue != "" || held.Tags != nil {
					t.Errorf("%s: Drop: %v", what, held)
				}
				wantErr(t, what+": Took", d.Took(client, 1), api.ErrUnmade)
				queue, err := d.Settle(client, 1)
				wantErr(t, what+": Settle", err, api.ErrUnmade)
				if queue != "" {
					t.Errorf("%s: Settle: %q", what, queue)
				}
				wantNothing(t, d, client)
			}
			wantNext(t, d, "q", 0)
			wantNext(t, d, "", 0)
			if len(d.Forget("q")) != 0 || len(d.Forget("")) != 0 || len(d.Clients()) != 0 {
				t.Errorf("%s: Forget or Clients tells somebody", what)
			}
		}
	}
	if !reflect.DeepEqual(zero, &Desk{}) {
		t.Errorf("the zero value has changed: %v", zero)
	}
}

// A copy by its value was made by no call, and nothing is promised of it but that no call panics.
func TestACopiedDeskPanicsNowhere(t *testing.T) {
	rows(fewCalls(), nil, 3, func(row []call) {
		d, _ := behind(t, add(1, "a", 2), add(2, "a", 2), add(3, "b", 1), took(1, 1))
		other := *d
		for i, c := range row {
			both := []*Desk{d, &other}
			one, two := both[i%2], both[1-i%2]
			one.Add(c.client, c.queue, c.most)
			one.Took(c.client, c.tag)
			one.Drop(c.client)
			two.Next("a")
			two.Next("b")
			two.Took(c.client, c.tag)
			two.Settle(c.client, c.tag)
			two.Forget(c.queue)
			one.Next("a")
			one.Next("b")
		}
	})
}

// All of it against the plain reckoning

// fewCalls are all kinds of calls, of two or three clients and two queues.
func fewCalls() []call {
	return []call{
		add(1, "a", 1), add(1, "b", 2), add(2, "a", 2), add(2, "b", 1), add(3, "a", 1),
		drop(1), drop(2), forget("a"), forget("b"),
		took(1, 1), took(1, 2), took(1, 0), took(2, 1), took(2, 2), took(3, 2),
		settle(1, 1), settle(1, 2), settle(2, 1), settle(2, 2),
	}
}

func TestAllShortRowsOfCalls(t *testing.T) {
	for count := 1; count <= 4; count++ {
		rows(fewCalls(), nil, count, func(row []call) {
			d, p := behind(t, row...)
			wantPlain(t, "a short row", d, p)
		})
	}
}

func TestAllShortRowsOfABusyDesk(t *testing.T) {
	for _, begin := range [][]call{
		{add(1, "a", 2), add(2, "a", 2), add(3, "b", 1)},
		{add(3, "a", 1), add(2, "a", 2), add(1, "a", 2), took(2, 1)},
		{add(2, "b", 2), add(1, "a", 2), add(3, "a", 1), took(1, 2), took(2, 2)},
	} {
		rows(fewCalls(), nil, 3, func(row []call) {
			d, p := behind(t, append(slices.Clone(begin), row...)...)
			wantPlain(t, "a short row", d, p)
			wantLine(t, "a short row", d, p, "a")
			wantLine(t, "a short row", d, p, "b")
			wantPlain(t, "full", d, p)
		})
	}
}

func TestManyLongRows(t *testing.T) {
	seed := uint64(5)
	for _, size := range []struct{ clients, queues, most int }{{3, 1, 2}, {8, 2, 4}, {40, 3, 3}, {1001, 5, 100}, {40, 1, 100}} {
		d, p := New(), &plain{}
		for i := range 4000 {
			client, queue := random(&seed, size.clients+1), string(rune('a'+random(&seed, size.queues)))
			if l := p.clients(); len(l) > 0 && random(&seed, 3) > 0 {
				client = l[random(&seed, len(l))]
			}
			tag := uint64(random(&seed, 12*size.most))
			if l := p.tags(client); len(l) > 0 && random(&seed, 3) > 0 {
				tag = l[random(&seed, len(l))]
			}
			if other, is := p.next(queue); is && random(&seed, 2) == 0 {
				do(t, nil, took(other, uint64(i+1)), d, p)
			}
			kinds := []call{took(client, tag), settle(client, tag), add(client, queue, random(&seed, size.most+2))}
			do(t, nil, kinds[random(&seed, len(kinds))], d, p)
			if i%25 == 24 {
				do(t, nil, drop(client), d, p)
			}
			if i%150 == 149 {
				do(t, nil, forget(queue), d, p)
			}
			if i%10 == 0 {
				wantPlain(t, "a long row", d, p)
			}
		}
		wantPlain(t, "a long row", d, p)
		wantLine(t, "a long row", d, p, "a")
	}
}

// R3

// scribble writes over a list, and over the room behind its end.
func scribble[T any](l []T, with T) {
	l = l[:cap(l)]
	for i := range l {
		l[i] = with
	}
}

func TestWhatIsToldIsNewMemory(t *testing.T) {
	for count := range 6 {
		d, p := behind(t, add(1, "q", 9), add(2, "q", 9), add(5, "q", 1), add(3, "other", 9))
		for i := range count {
			do(t, nil, took(1, uint64(9-i)), d, p)
		}
		a, _ := d.Hold(1)
		b, _ := d.Hold(1)
		scribble(a.Tags, 77)
		if !slices.Equal(b.Tags, p.tags(1)) {
			t.Error("two answers of Hold share memory")
		}
		l, m := d.Clients(), d.Clients()
		scribble(l, 77)
		wantList(t, "Clients told ahead of a scribble", m, p.clients()...)
		wantPlain(t, "behind a scribble", d, p)
		do(t, nil, took(2, 20), d, p)
		c, _ := d.Drop(1)
		p.drop(1)
		scribble(c.Tags, 77)
		wantPlain(t, "behind a scribble over what Drop told", d, p)
		scribble(d.Forget("q"), 3)
		p.forget("q")
		wantPlain(t, "behind a scribble over what Forget told", d, p)
	}
}

func TestWhatIsToldStays(t *testing.T) {
	rows(fewCalls(), nil, 3, func(row []call) {
		d, p := behind(t, add(1, "a", 9), add(2, "a", 9), add(3, "b", 9), took(1, 7), took(1, 5), took(2, 3))
		held, _ := d.Hold(1)
		clients := d.Clients()
		tags, who := slices.Clone(held.Tags[:cap(held.Tags)]), slices.Clone(clients[:cap(clients)])
		for _, c := range row {
			do(t, row, c, d, p)
		}
		if !slices.Equal(held.Tags[:cap(held.Tags)], tags) || !slices.Equal(clients[:cap(clients)], who) {
			t.Fatalf("%v: what was told has changed", row)
		}
	})
}

func TestDesksGoTheirOwnWays(t *testing.T) {
	a, p := behind(t, add(1, "q", 2), took(1, 1))
	b, q := behind(t, add(1, "q", 2), took(1, 1))
	do(t, nil, took(1, 2), a, p)
	do(t, nil, forget("q"), b, q)
	wantPlain(t, "one desk", a, p)
	wantPlain(t, "the other one", b, q)
}
