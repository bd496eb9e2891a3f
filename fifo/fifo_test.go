package fifo

import (
	"math"
	"slices"
	"strconv"
	"testing"

	"staith/api"
)

const top = math.MaxUint64

// Where a message of a plain queue is.
const (
	ready = iota
	out
	done
)

// entry is a message that was pushed once, and where it is now.
type entry struct {
	item  api.Item
	where int
}

// plain is all messages that ever came, none of which is taken away: what a Queue is held against.
type plain struct {
	most int
	next uint64
	all  []entry
}

func newPlain(most int) *plain {
	return &plain{most: most, next: 1}
}

// in are those at a place, by tags: they came in that order.
func (p *plain) in(where int) []api.Item {
	var l []api.Item
	for _, e := range p.all {
		if e.where == where {
			l = append(l, e.item)
		}
	}
	return l
}

func (p *plain) room() int {
	return p.most - len(p.in(ready)) - len(p.in(out))
}

func (p *plain) push(m api.Message) api.Errno {
	if p.room() == 0 {
		return api.ErrSpace
	}
	if p.next == top {
		return api.ErrOver
	}
	p.all = append(p.all, entry{item: api.Item{Tag: p.next, Message: m}})
	p.next++
	return api.OK
}

func (p *plain) give() (api.Item, bool) {
	for i := range p.all {
		if p.all[i].where == ready {
			p.all[i].where = out
			return p.all[i].item, true
		}
	}
	return api.Item{}, false
}

// move is Done, and Back with a mark.
func (p *plain) move(tag uint64, where int, mark bool) api.Errno {
	for i := range p.all {
		if e := &p.all[i]; e.item.Tag == tag && e.where == out {
			e.where = where
			e.item.Again = e.item.Again || mark
			return api.OK
		}
	}
	return api.ErrStale
}

func (p *plain) reset() int {
	l := p.in(out)
	for _, item := range l {
		p.move(item.Tag, ready, true)
	}
	return len(l)
}

func (p *plain) copied() *plain {
	return &plain{most: p.most, next: p.next, all: slices.Clone(p.all)}
}

// loaded is the plain queue of lists that are right.
func loaded(most int, next uint64, waiting, given []api.Item) *plain {
	p := &plain{most: most, next: next}
	for _, item := range waiting {
		p.all = append(p.all, entry{item: item, where: ready})
	}
	for _, item := range given {
		p.all = append(p.all, entry{item: item, where: out})
	}
	slices.SortFunc(p.all, func(a, b entry) int {
		if a.item.Tag < b.item.Tag {
			return -1
		}
		return 1
	})
	return p
}

// wantPlain holds all that a queue tells against a plain one.
func wantPlain(t *testing.T, what string, q *Queue, p *plain) {
	t.Helper()
	if got, want := q.Ready(), p.in(ready); !slices.Equal(got, want) {
		t.Fatalf("%s: Ready: %v, want %v", what, got, want)
	}
	if got, want := q.Out(), p.in(out); !slices.Equal(got, want) {
		t.Fatalf("%s: Out: %v, want %v", what, got, want)
	}
	if q.Most() != p.most || q.Room() != p.room() || q.Next() != p.next {
		t.Fatalf("%s: Most %d, Room %d, Next %d; want %d, %d, %d", what, q.Most(), q.Room(), q.Next(), p.most, p.room(), p.next)
	}
}

// A call is one to a queue; its tag counts for Done and Back alone.
type call struct {
	name string
	tag  uint64
}

// do makes a call to both queues and holds what they answer against each other.
func do(t *testing.T, row []call, c call, q *Queue, p *plain) {
	t.Helper()
	wrong := false
	switch c.name {
	case "Push":
		m := message(int(p.next % 1000))
		wrong = q.Push(m) != p.push(m)
	case "Give":
		a, aIs := q.Give()
		b, bIs := p.give()
		wrong = a != b || aIs != bIs
	case "Done":
		wrong = q.Done(c.tag) != p.move(c.tag, done, false)
	case "Back":
		wrong = q.Back(c.tag) != p.move(c.tag, ready, true)
	case "Reset":
		wrong = q.Reset() != p.reset()
	}
	if wrong {
		t.Fatalf("%v of %v: %v answers the wrong thing", row, p.most, c)
	}
}

// someCalls are all calls that change a queue, with these tags.
func someCalls(tags ...uint64) []call {
	l := []call{{name: "Push"}, {name: "Give"}, {name: "Reset"}}
	for _, tag := range tags {
		l = append(l, call{"Done", tag}, call{"Back", tag})
	}
	return l
}

// rows calls each with each row of count calls.
func rows(calls []call, row []call, count int, each func(row []call)) {
	if len(row) == count {
		each(row)
		return
	}
	for _, c := range calls {
		rows(calls, append(row, c), count, each)
	}
}

// message is one of its own for each number, with all its fields filled.
func message(n int) api.Message {
	return api.Message{
		Ident: api.Ident{Origin: 1 + n%8, Seq: uint64(n)}, Hop: n % 5,
		Exchange: "x" + strconv.Itoa(n), Key: "k" + strconv.Itoa(n), Body: "b" + strconv.Itoa(n),
	}
}

// items are messages with these tags.
func items(tags ...uint64) []api.Item {
	var l []api.Item
	for i, tag := range tags {
		l = append(l, api.Item{Tag: tag, Message: message(100 + i)})
	}
	return l
}

func again(l []api.Item) []api.Item {
	l = slices.Clone(l)
	for i := range l {
		l[i].Again = true
	}
	return l
}

// tags are those of a list.
func tags(l []api.Item) []uint64 {
	var out []uint64
	for _, item := range l {
		out = append(out, item.Tag)
	}
	return out
}

// filled is a queue for most messages with count of them, and the plain one.
func filled(t *testing.T, most, count int) (*Queue, *plain) {
	t.Helper()
	q, p := New(most), newPlain(most)
	for range count {
		do(t, nil, call{name: "Push"}, q, p)
	}
	return q, p
}

// given is filled, with the first ones given out.
func given(t *testing.T, most, count, outs int) (*Queue, *plain) {
	t.Helper()
	q, p := filled(t, most, count)
	for range outs {
		do(t, nil, call{name: "Give"}, q, p)
	}
	return q, p
}

// must is Load of what is right.
func must(t *testing.T, most int, next uint64, waiting, given []api.Item) *Queue {
	t.Helper()
	q, err := Load(most, next, waiting, given)
	if q == nil || err != api.OK {
		t.Fatalf("Load(%d, %d, %v, %v): %v", most, next, tags(waiting), tags(given), err)
	}
	return q
}

// wantErr holds an Errno against another one.
func wantErr(t *testing.T, what string, got, want api.Errno) {
	t.Helper()
	if got != want {
		t.Errorf("%s: %v, want %v", what, got, want)
	}
}

func wantTags(t *testing.T, what string, l []api.Item, want ...uint64) {
	t.Helper()
	if !slices.Equal(tags(l), want) {
		t.Errorf("%s: %v, want %v", what, tags(l), want)
	}
}

// wantGive takes one out, which must be of this tag, and marked or not.
func wantGive(t *testing.T, q *Queue, tag uint64, marked bool) {
	t.Helper()
	if item, is := q.Give(); !is || item.Tag != tag || item.Again != marked {
		t.Errorf("Give: %d %v %v, want %d %v", item.Tag, item.Again, is, tag, marked)
	}
}

// wantNone takes one out of a queue in which none is ready.
func wantNone(t *testing.T, what string, q *Queue) {
	t.Helper()
	if item, is := q.Give(); is || item != (api.Item{}) {
		t.Errorf("%s: Give: %v %v", what, item, is)
	}
}

// next is a number in no plain order.
func next(seed *uint64) uint64 {
	*seed = *seed*6364136223846793005 + 1442695040888963407
	return *seed >> 33
}

// orders calls do with each order of l.
func orders(l []uint64, from int, each func(l []uint64)) {
	if from == len(l) {
		each(l)
		return
	}
	for i := from; i < len(l); i++ {
		l[from], l[i] = l[i], l[from]
		orders(l, from+1, each)
		l[from], l[i] = l[i], l[from]
	}
}

// P6.1

func TestNewTakesWhatMayBe(t *testing.T) {
	for _, most := range []int{0, -1, -1000, math.MinInt, api.MaxDepth + 1, 2 * api.MaxDepth, math.MaxInt} {
		if New(most) != nil {
			t.Errorf("New(%d) is a queue", most)
		}
	}
	for _, most := range []int{1, 2, 3, 500, api.MaxDepth - 1, api.MaxDepth} {
		q := New(most)
		if q == nil {
			t.Fatalf("New(%d): nil", most)
		}
		wantPlain(t, "new", q, newPlain(most))
		wantNone(t, "new", q)
	}
	a, b := New(2), New(2)
	a.Push(message(1))
	wantPlain(t, "another new one", b, newPlain(2))
}

func TestPushUpToMost(t *testing.T) {
	for _, most := range []int{1, 2, 3, 17, api.MaxDepth} {
		q, p := New(most), newPlain(most)
		for i := range most {
			if err := q.Push(message(i)); err != api.OK {
				t.Fatalf("Push %d of %d: %v", i+1, most, err)
			}
			p.push(message(i))
			if q.Room() != most-i-1 || q.Next() != uint64(i+2) || q.Most() != most {
				t.Fatalf("behind Push %d of %d: Room %d, Next %d, Most %d", i+1, most, q.Room(), q.Next(), q.Most())
			}
		}
		for range 3 {
			wantErr(t, "one more", q.Push(message(most)), api.ErrSpace)
			wantPlain(t, "full", q, p)
		}
	}
}

func TestPushKeepsTheMessage(t *testing.T) {
	for _, m := range []api.Message{
		{},
		message(7),
		{Ident: api.Ident{Origin: -1, Seq: top}, Hop: math.MinInt, Exchange: "\xff", Key: "..#", Body: string(make([]byte, 5000))},
		{Ident: api.Ident{Origin: math.MaxInt}, Hop: math.MaxInt},
	} {
		q := New(1)
		wantErr(t, "Push", q.Push(m), api.OK)
		want := api.Item{Tag: 1, Message: m}
		if l := q.Ready(); len(l) != 1 || l[0] != want {
			t.Errorf("Ready: %v, want %v", l, want)
		}
		if item, is := q.Give(); !is || item != want {
			t.Errorf("Give: %v %v, want %v", item, is, want)
		}
		if l := q.Out(); len(l) != 1 || l[0] != want {
			t.Errorf("Out: %v, want %v", l, want)
		}
	}
}

func TestTheSameMessageTwice(t *testing.T) {
	q := New(3)
	q.Push(message(1))
	q.Push(message(1))
	q.Push(message(1))
	wantTags(t, "Ready", q.Ready(), 1, 2, 3)
	q.Give()
	q.Give()
	wantErr(t, "Done", q.Done(1), api.OK)
	wantTags(t, "Out", q.Out(), 2)
	wantTags(t, "Ready", q.Ready(), 3)
}

func TestWhatIsOutTakesRoom(t *testing.T) {
	for most := 1; most <= 5; most++ {
		for outs := 0; outs <= most; outs++ {
			q, p := given(t, most, most, outs)
			wantErr(t, "none done", q.Push(message(0)), api.ErrSpace)
			wantPlain(t, "none done", q, p)
			for i := range outs {
				do(t, nil, call{"Done", uint64(i + 1)}, q, p)
				if q.Room() != i+1 {
					t.Errorf("%d of %d done: Room %d", i+1, most, q.Room())
				}
			}
			for range outs {
				wantErr(t, "some done", q.Push(message(0)), api.OK)
				p.push(message(0))
			}
			wantErr(t, "filled again", q.Push(message(0)), api.ErrSpace)
			wantPlain(t, "filled again", q, p)
		}
	}
}

func TestBackMakesNoRoom(t *testing.T) {
	q, p := given(t, 3, 3, 2)
	do(t, nil, call{"Back", 1}, q, p)
	wantErr(t, "one is back", q.Push(message(0)), api.ErrSpace)
	do(t, nil, call{name: "Reset"}, q, p)
	wantErr(t, "all are back", q.Push(message(0)), api.ErrSpace)
	wantPlain(t, "all are back", q, p)
}

func TestTagsRiseByOne(t *testing.T) {
	q := New(1)
	for want := uint64(1); want <= 3000; want++ {
		if q.Next() != want {
			t.Fatalf("Next: %d, want %d", q.Next(), want)
		}
		wantErr(t, "Push", q.Push(message(int(want))), api.OK)
		wantErr(t, "Push that is refused", q.Push(message(0)), api.ErrSpace)
		if q.Next() != want+1 {
			t.Fatalf("Next behind a Push that was refused: %d, want %d", q.Next(), want+1)
		}
		item, is := q.Give()
		if !is || item.Tag != want || item.Message != message(int(want)) {
			t.Fatalf("Give: %v %v, want tag %d", item, is, want)
		}
		wantErr(t, "Push that is refused", q.Push(message(0)), api.ErrSpace)
		wantErr(t, "Done", q.Done(want), api.OK)
	}
}

func TestPushAtTheLastTags(t *testing.T) {
	q := must(t, 3, top-1, nil, nil)
	p := loaded(3, top-1, nil, nil)
	wantErr(t, "one before the last", q.Push(message(1)), api.OK)
	p.push(message(1))
	wantTags(t, "Ready", q.Ready(), top-1)
	for range 3 {
		wantErr(t, "no tags are left", q.Push(message(2)), api.ErrOver)
		wantPlain(t, "no tags are left", q, p)
	}
	do(t, nil, call{name: "Give"}, q, p)
	wantErr(t, "given out", q.Push(message(2)), api.ErrOver)
	do(t, nil, call{"Done", top}, q, p)
	do(t, nil, call{"Back", top - 1}, q, p)
	wantPlain(t, "back", q, p)
	do(t, nil, call{name: "Give"}, q, p)
	do(t, nil, call{"Done", top - 1}, q, p)
	wantErr(t, "done", q.Push(message(2)), api.ErrOver)
	wantPlain(t, "done", q, p)
}

func TestTheErrorThatComesFirst(t *testing.T) {
	for what, q := range map[string]*Queue{
		"ready": must(t, 1, top, items(5), nil),
		"out":   must(t, 1, top, nil, items(5)),
		"both":  must(t, 2, top, items(9), items(top-1)),
	} {
		wantErr(t, what+": full, and no tags are left", q.Push(message(1)), api.ErrSpace)
	}
	// The zero value has no room as well, and nothing is out of it.
	for what, q := range unmade() {
		wantErr(t, what, q.Push(message(1)), api.ErrUnmade)
		wantErr(t, what, q.Done(1), api.ErrUnmade)
		wantErr(t, what, q.Back(1), api.ErrUnmade)
	}
}

// P6.2

func TestExample(t *testing.T) {
	q := New(2)
	a, b, c := api.Message{Body: "a"}, api.Message{Body: "b"}, api.Message{Body: "c"}
	wantErr(t, "Push a", q.Push(a), api.OK)
	wantErr(t, "Push b", q.Push(b), api.OK)
	wantErr(t, "Push c", q.Push(c), api.ErrSpace)
	if item, is := q.Give(); !is || item != (api.Item{Tag: 1, Message: a}) {
		t.Errorf("Give: %v %v", item, is)
	}
	wantErr(t, "Back", q.Back(1), api.OK)
	marked := api.Item{Tag: 1, Message: a, Again: true}
	if l := q.Ready(); !slices.Equal(l, []api.Item{marked, {Tag: 2, Message: b}}) {
		t.Errorf("Ready: %v", l)
	}
	if item, is := q.Give(); !is || item != marked {
		t.Errorf("Give: %v %v", item, is)
	}
}

func TestGiveOfNothing(t *testing.T) {
	q, p := filled(t, 2, 0)
	wantNone(t, "empty", q)
	wantPlain(t, "empty", q, p)
	q, p = given(t, 2, 2, 2)
	wantNone(t, "all are out", q)
	wantPlain(t, "all are out", q, p)
	do(t, nil, call{"Done", 1}, q, p)
	wantNone(t, "one is out", q)
	do(t, nil, call{"Done", 2}, q, p)
	wantNone(t, "all are done", q)
	wantPlain(t, "all are done", q, p)
}

func TestGiveTakesTheLeastTag(t *testing.T) {
	q, _ := given(t, 6, 6, 3)
	q.Back(2)
	wantTags(t, "Ready", q.Ready(), 2, 4, 5, 6)
	wantGive(t, q, 2, true)
	q.Back(3)
	q.Back(1)
	q.Back(2)
	for _, tag := range []uint64{1, 2, 3} {
		wantGive(t, q, tag, true)
	}
	for _, tag := range []uint64{4, 5, 6} {
		wantGive(t, q, tag, false)
	}
	wantNone(t, "all are out", q)
	wantTags(t, "Out", q.Out(), 1, 2, 3, 4, 5, 6)
}

func TestDoneAndBackOfWhatIsNotOut(t *testing.T) {
	q, p := given(t, 9, 5, 3)
	do(t, nil, call{"Done", 2}, q, p)
	do(t, nil, call{"Back", 3}, q, p)
	for what, tag := range map[string]uint64{
		"zero": 0, "done": 2, "back": 3, "ready": 4, "the last": 5, "next": 6, "beyond": 7, "far": 1 << 40, "the greatest": top,
	} {
		wantErr(t, "Done of "+what, q.Done(tag), api.ErrStale)
		wantPlain(t, "Done of "+what, q, p)
		wantErr(t, "Back of "+what, q.Back(tag), api.ErrStale)
		wantPlain(t, "Back of "+what, q, p)
	}
	wantErr(t, "Done of the one that is out", q.Done(1), api.OK)
	wantErr(t, "Done of it again", q.Done(1), api.ErrStale)
	wantErr(t, "Back of one that is done", q.Back(1), api.ErrStale)
	wantTags(t, "Ready", q.Ready(), 3, 4, 5)
	wantTags(t, "Out", q.Out())
}

func TestBackToEachPlace(t *testing.T) {
	for _, c := range []struct {
		what string
		back uint64
		want []uint64
	}{
		{"the least", 1, []uint64{1, 3, 5, 7, 8}},
		{"one of the midst", 4, []uint64{3, 4, 5, 7, 8}},
		{"another one of the midst", 6, []uint64{3, 5, 6, 7, 8}},
		{"behind all", 9, []uint64{3, 5, 7, 8, 9}},
	} {
		q := must(t, 9, 10, items(3, 5, 7, 8), items(1, 4, 6, 9))
		wantErr(t, c.what, q.Back(c.back), api.OK)
		wantTags(t, c.what, q.Ready(), c.want...)
		for _, item := range q.Ready() {
			if item.Again != (item.Tag == c.back) {
				t.Errorf("%s: tag %d: Again %v", c.what, item.Tag, item.Again)
			}
		}
		for _, tag := range c.want {
			wantGive(t, q, tag, tag == c.back)
		}
	}
}

func TestBackToNothing(t *testing.T) {
	q, _ := given(t, 3, 3, 3)
	wantErr(t, "Back", q.Back(2), api.OK)
	wantTags(t, "Ready", q.Ready(), 2)
	wantTags(t, "Out", q.Out(), 1, 3)
}

func TestTheMarkStays(t *testing.T) {
	q, _ := filled(t, 2, 2)
	wantGive(t, q, 1, false)
	for range 3 {
		wantErr(t, "Back", q.Back(1), api.OK)
		if l := q.Ready(); len(l) != 2 || !l[0].Again || l[1].Again || l[0].Message != message(1) {
			t.Errorf("Ready: %v", l)
		}
		wantGive(t, q, 1, true)
		if l := q.Out(); len(l) != 1 || !l[0].Again || l[0].Message != message(1) {
			t.Errorf("Out: %v", l)
		}
	}
	q.Reset()
	wantGive(t, q, 1, true)
	wantGive(t, q, 2, false)
}

func TestWhatIsOutIsNotMarkedYet(t *testing.T) {
	q, _ := given(t, 2, 2, 1)
	if l := q.Out(); len(l) != 1 || l[0].Again {
		t.Errorf("Out: %v", l)
	}
}

func TestResetOfNoneOneAndMany(t *testing.T) {
	for _, count := range []int{0, 1, 2, 3, 50, api.MaxDepth} {
		for _, outs := range []int{0, 1, 2, count / 2, count} {
			outs = min(outs, count)
			q, p := given(t, api.MaxDepth, count, outs)
			if got := q.Reset(); got != outs {
				t.Errorf("Reset of %d: %d", outs, got)
			}
			p.reset()
			wantPlain(t, "Reset", q, p)
			if got := q.Reset(); got != 0 {
				t.Errorf("Reset again: %d", got)
			}
			wantPlain(t, "Reset again", q, p)
		}
	}
}

func TestResetInWhicheverOrder(t *testing.T) {
	numbers := []uint64{1, 2, 3, 4, 5}
	orders(numbers, 0, func(l []uint64) {
		for backs := range len(l) {
			q, p := given(t, 6, 6, 5)
			for _, tag := range l[:backs] {
				do(t, nil, call{"Back", tag}, q, p)
			}
			for range backs / 2 {
				do(t, nil, call{name: "Give"}, q, p)
			}
			wantPlain(t, "ahead of Reset", q, p)
			do(t, nil, call{name: "Reset"}, q, p)
			wantPlain(t, "behind Reset", q, p)
		}
	})
}

func TestOutByTagsWhateverTheOrder(t *testing.T) {
	numbers := []uint64{1, 2, 3, 4}
	orders(numbers, 0, func(l []uint64) {
		q, _ := given(t, 9, 8, 8)
		for i, tag := range l {
			q.Back(tag)
			q.Give()
			q.Done(tag + 4)
			wantTags(t, "Out", q.Out(), slices.DeleteFunc([]uint64{1, 2, 3, 4, 5, 6, 7, 8}, func(n uint64) bool {
				return slices.Contains(l[:i+1], n-4)
			})...)
		}
	})
}

func TestManyOutByTags(t *testing.T) {
	q, p := given(t, api.MaxDepth, api.MaxDepth, api.MaxDepth)
	wantPlain(t, "all are out", q, p)
	for tag := uint64(1); tag <= api.MaxDepth; tag += 3 {
		do(t, nil, call{"Done", tag}, q, p)
		do(t, nil, call{"Back", tag + 1}, q, p)
	}
	wantPlain(t, "a third is out", q, p)
}

func TestCopyIsAlike(t *testing.T) {
	for most := 1; most <= 4; most++ {
		for count := 0; count <= most; count++ {
			for outs := 0; outs <= count; outs++ {
				q, p := given(t, most, count, outs)
				c := q.Copy()
				if c == nil || c == q {
					t.Fatal("Copy is no other queue")
				}
				wantPlain(t, "the copy", c, p)
				wantPlain(t, "what was copied", q, p)
			}
		}
	}
}

func TestCopyOfAnEmptyOne(t *testing.T) {
	q, p := filled(t, 2, 0)
	c, cp := q.Copy(), p.copied()
	for range 2 {
		do(t, nil, call{name: "Push"}, c, cp)
		do(t, nil, call{name: "Give"}, c, cp)
	}
	wantPlain(t, "the copy", c, cp)
	wantPlain(t, "what was copied", q, p)
}

func TestACopyGoesItsOwnWay(t *testing.T) {
	calls := someCalls(1, 2, 3, 4)
	rows(calls, nil, 3, func(row []call) {
		q, p := given(t, 5, 4, 2)
		do(t, nil, call{"Back", 1}, q, p)
		c, still := q.Copy(), p.copied()
		for _, x := range row {
			do(t, row, x, q, p)
		}
		wantPlain(t, "the copy", c, still)
		wantPlain(t, "what was copied", q, p)

		q, p = given(t, 5, 4, 2)
		do(t, nil, call{"Back", 1}, q, p)
		c, still = q.Copy(), p.copied()
		for _, x := range row {
			do(t, row, x, c, p)
		}
		wantPlain(t, "what was copied", q, still)
		wantPlain(t, "the copy", c, p)
	})
}

// P6.3

func TestLoadOfWhatIsDamaged(t *testing.T) {
	one := items(1)
	for what, c := range map[string]struct {
		most           int
		next           uint64
		waiting, given []api.Item
	}{
		"most 0":                            {0, 1, nil, nil},
		"most below 0":                      {-1, 1, nil, nil},
		"the least most":                    {math.MinInt, 1, nil, nil},
		"most beyond MaxDepth":              {api.MaxDepth + 1, 1, nil, nil},
		"the greatest most":                 {math.MaxInt, 1, nil, nil},
		"most 0 with an item":               {0, 2, one, nil},
		"next 0":                            {5, 0, nil, nil},
		"next 0 with an item":               {5, 0, one, nil},
		"more than most ready":              {2, 9, items(1, 2, 3), nil},
		"more than most out":                {2, 9, nil, items(1, 2, 3)},
		"more than most together":           {2, 9, items(1, 2), items(3)},
		"more than most together, 1":        {1, 9, items(1), items(3)},
		"ready that falls":                  {5, 9, items(2, 1), nil},
		"ready that stays":                  {5, 9, items(2, 2), nil},
		"ready that falls late":             {5, 9, items(1, 2, 5, 4), nil},
		"ready that falls and rises":        {5, 9, items(1, 5, 4, 6), nil},
		"ready that stays late":             {5, 9, items(1, 2, 5, 5), nil},
		"out that falls":                    {5, 9, nil, items(2, 1)},
		"out that stays":                    {5, 9, nil, items(2, 2)},
		"out that falls late":               {5, 9, nil, items(1, 2, 5, 4)},
		"out that falls and rises":          {5, 9, nil, items(1, 5, 4, 6)},
		"out that stays late":               {5, 9, nil, items(1, 2, 5, 5)},
		"out that falls beside ready":       {5, 9, items(4), items(2, 1)},
		"ready that falls beside out":       {5, 9, items(2, 1), items(4)},
		"ready 0":                           {5, 9, items(0), nil},
		"ready 0 ahead":                     {5, 9, items(0, 1), nil},
		"ready 0 behind":                    {5, 9, items(1, 0), nil},
		"out 0":                             {5, 9, nil, items(0)},
		"out 0 ahead":                       {5, 9, nil, items(0, 1)},
		"out 0 behind":                      {5, 9, nil, items(1, 0)},
		"ready next":                        {5, 9, items(9), nil},
		"ready next at the end":             {5, 9, items(1, 9), nil},
		"ready beyond next":                 {5, 9, items(1, 10), nil},
		"ready far beyond next":             {5, 9, items(top), nil},
		"out next":                          {5, 9, nil, items(9)},
		"out next at the end":               {5, 9, nil, items(1, 9)},
		"out beyond next":                   {5, 9, nil, items(1, 10)},
		"out far beyond next":               {5, 9, nil, items(top)},
		"an item of a queue without one":    {5, 1, one, nil},
		"an item out of one without":        {5, 1, nil, one},
		"the greatest tag":                  {5, top, items(top), nil},
		"the greatest tag out":              {5, top, nil, items(top)},
		"in both":                           {5, 9, one, one},
		"in both, the first":                {5, 9, items(1, 3), items(1, 4)},
		"in both, the last":                 {5, 9, items(1, 8), items(4, 8)},
		"in both, the first and the last":   {5, 9, items(4, 8), items(1, 4)},
		"in both, the last and the first":   {5, 9, items(1, 4), items(4, 8)},
		"in both, in the midst":             {7, 9, items(1, 4, 6), items(2, 4, 7)},
		"in both, the same marked":          {5, 9, again(one), one},
		"more than most, one in both lists": {2, 9, items(1, 2), items(2)},
	} {
		q, err := Load(c.most, c.next, c.waiting, c.given)
		if q != nil || err != api.ErrDamage {
			t.Errorf("%s: %v %v", what, q, err)
		}
	}
}

func TestLoadOfWhatIsRight(t *testing.T) {
	for what, c := range map[string]struct {
		most           int
		next           uint64
		waiting, given []api.Item
	}{
		"nothing":                      {1, 1, nil, nil},
		"empty lists":                  {1, 1, []api.Item{}, make([]api.Item, 0, 4)},
		"nothing, the most":            {api.MaxDepth, 1, nil, nil},
		"nothing, tags are gone":       {3, 1000, nil, nil},
		"nothing, the greatest next":   {3, top, nil, nil},
		"one ready":                    {1, 2, items(1), nil},
		"one out":                      {1, 2, nil, items(1)},
		"one ready, just below next":   {5, 9, items(8), nil},
		"one out, just below next":     {5, 9, nil, items(8)},
		"the greatest tag that may be": {5, top, items(top - 1), nil},
		"and out":                      {5, top, nil, items(top - 1)},
		"as many as most":              {4, 9, items(1, 2), items(3, 4)},
		"as many as most, ready":       {4, 9, items(1, 2, 5, 8), nil},
		"as many as most, out":         {4, 9, nil, items(1, 2, 5, 8)},
		"out ahead of ready":           {9, 9, items(5, 6), items(1, 2)},
		"one between the other":        {9, 9, items(1, 3, 5, 7), items(2, 4, 6, 8)},
		"the other between the one":    {9, 9, items(2, 4, 6, 8), items(1, 3, 5, 7)},
		"marked":                       {9, 9, again(items(1, 2)), again(items(3, 4))},
		"some marked":                  {9, 9, append(again(items(1)), items(2)...), append(items(3), again(items(4))...)},
		"far apart":                    {9, top, items(1, 1<<32, 1<<63), items(2, 1<<62, top-1)},
	} {
		q, p := must(t, c.most, c.next, c.waiting, c.given), loaded(c.most, c.next, c.waiting, c.given)
		wantPlain(t, what, q, p)
		var asked []uint64
		for _, e := range p.all {
			asked = append(asked, e.item.Tag)
		}
		for _, last := range someCalls(append(asked, 0, c.next, c.next-1, top)...) {
			q, p := must(t, c.most, c.next, c.waiting, c.given), loaded(c.most, c.next, c.waiting, c.given)
			for _, x := range []call{last, {name: "Push"}, last, {name: "Give"}, last, {name: "Reset"}, last, {name: "Give"}, last} {
				do(t, nil, x, q, p)
				wantPlain(t, what, q, p)
			}
		}
	}
}

func TestLoadOfAFullQueue(t *testing.T) {
	var waiting, given []api.Item
	for tag := uint64(1); tag <= api.MaxDepth; tag++ {
		if tag%3 == 0 {
			given = append(given, items(tag)...)
		} else {
			waiting = append(waiting, items(tag)...)
		}
	}
	const next = api.MaxDepth + 2
	q, p := must(t, api.MaxDepth, next, waiting, given), loaded(api.MaxDepth, next, waiting, given)
	wantPlain(t, "full", q, p)
	for _, c := range []call{{name: "Push"}, {name: "Give"}, {name: "Reset"}, {name: "Give"}, {"Done", 1}, {name: "Push"}} {
		do(t, nil, c, q, p)
		wantPlain(t, c.name, q, p)
	}
	if l, err := Load(api.MaxDepth, next, append(waiting, items(api.MaxDepth+1)...), given); l != nil || err != api.ErrDamage {
		t.Errorf("one more than MaxDepth: %v", err)
	}
}

// good tells by the chapter's words, one by one, whether a queue is as these say.
func good(most int, next uint64, waiting, given []api.Item) bool {
	if most < 1 || most > api.MaxDepth || next == 0 || len(waiting)+len(given) > most {
		return false
	}
	for _, l := range [][]api.Item{waiting, given} {
		for i, item := range l {
			if item.Tag == 0 || item.Tag >= next || i > 0 && l[i-1].Tag >= item.Tag {
				return false
			}
		}
	}
	for _, a := range waiting {
		for _, b := range given {
			if a.Tag == b.Tag {
				return false
			}
		}
	}
	return true
}

// shortLists are all lists of up to 3 of these tags.
func shortLists(tags []uint64) [][]api.Item {
	lists := [][]api.Item{nil}
	for _, a := range tags {
		lists = append(lists, items(a))
		for _, b := range tags {
			lists = append(lists, items(a, b))
			for _, c := range tags {
				lists = append(lists, items(a, b, c))
			}
		}
	}
	return lists
}

func TestLoadOfAllShortLists(t *testing.T) {
	lists := shortLists([]uint64{0, 1, 2, 3, 4})
	count := 0
	for _, waiting := range lists {
		for _, given := range lists {
			for most := 0; most <= 4; most++ {
				for _, next := range []uint64{0, 1, 3, 4, 5} {
					want := good(most, next, waiting, given)
					q, err := Load(most, next, waiting, given)
					if (q != nil) != want || (err == api.OK) != want || !want && err != api.ErrDamage {
						t.Fatalf("Load(%d, %d, %v, %v): %v, want %v", most, next, tags(waiting), tags(given), err, want)
					}
					if want {
						count++
						wantPlain(t, "loaded", q, loaded(most, next, waiting, given))
					}
				}
			}
		}
	}
	if count == 0 {
		t.Error("no lists were right")
	}
}

// wantReload loads what a queue tells and does the same row of calls to both.
func wantReload(t *testing.T, q *Queue, p *plain, row []call) {
	t.Helper()
	again := must(t, q.Most(), q.Next(), q.Ready(), q.Out())
	p = p.copied()
	wantPlain(t, "loaded again", again, p)
	for _, c := range row {
		do(t, row, c, again, p)
	}
	wantPlain(t, "loaded again, and more", again, p)
}

func TestLoadOfWhatAQueueTells(t *testing.T) {
	calls := someCalls(1, 2, 3)
	rest := []call{{name: "Give"}, {"Back", 2}, {name: "Push"}, {"Done", 1}, {name: "Give"}, {name: "Reset"}, {name: "Give"}}
	for most := 1; most <= 3; most++ {
		rows(calls, nil, 4, func(row []call) {
			q, p := New(most), newPlain(most)
			for _, c := range row {
				do(t, row, c, q, p)
			}
			wantReload(t, q, p, rest)
			wantPlain(t, "what was loaded again", q, p)
		})
	}
}

// A Queue that no call made

func unmade() map[string]*Queue {
	return map[string]*Queue{"nil": nil, "the zero value": {}}
}

func TestUnmadeQueues(t *testing.T) {
	for what, q := range unmade() {
		for range 2 {
			wantErr(t, what+": Push", q.Push(message(1)), api.ErrUnmade)
			for _, tag := range []uint64{0, 1, 2, top} {
				wantErr(t, what+": Done", q.Done(tag), api.ErrUnmade)
				wantErr(t, what+": Back", q.Back(tag), api.ErrUnmade)
			}
			wantNone(t, what, q)
			if q.Reset() != 0 || q.Most() != 0 || q.Room() != 0 || q.Next() != 0 {
				t.Errorf("%s: Reset, Most %d, Room %d or Next %d is not 0", what, q.Most(), q.Room(), q.Next())
			}
			if len(q.Ready()) != 0 || len(q.Out()) != 0 {
				t.Errorf("%s: Ready %v, Out %v", what, q.Ready(), q.Out())
			}
			if q.Copy() != nil {
				t.Errorf("%s: Copy is a queue", what)
			}
		}
	}
}

// P6.4

// wantOnce goes along a row of calls and keeps where each message is by its body alone, not by its tag.
func wantOnce(t *testing.T, q *Queue, seed uint64, steps int) {
	t.Helper()
	where, numbers, pushed := map[string]int{}, map[string]int{}, 0
	for range steps {
		switch next(&seed) % 8 {
		case 0, 1, 2:
			m := message(pushed)
			if q.Push(m) == api.OK {
				where[m.Body], numbers[m.Body] = ready, pushed
				pushed++
			}
		case 3, 4:
			first := ""
			for body, at := range where {
				if at == ready && (first == "" || numbers[body] < numbers[first]) {
					first = body
				}
			}
			item, is := q.Give()
			if is != (first != "") || item.Message.Body != first {
				t.Fatalf("Give: %v %v, want %q", item, is, first)
			}
			if is {
				where[first] = out
			}
		case 5, 6:
			if l := q.Out(); len(l) > 0 {
				item := l[next(&seed)%uint64(len(l))]
				if where[item.Message.Body] != out || q.Done(item.Tag) != api.OK {
					t.Fatalf("Done of %v, which is out, is refused", item)
				}
				where[item.Message.Body] = done
				wantErr(t, "Done twice", q.Done(item.Tag), api.ErrStale)
				wantErr(t, "Back behind Done", q.Back(item.Tag), api.ErrStale)
			}
		case 7:
			if l := q.Out(); len(l) > 0 {
				item := l[next(&seed)%uint64(len(l))]
				wantErr(t, "Back", q.Back(item.Tag), api.OK)
				where[item.Message.Body] = ready
			}
		}
		wantWhere(t, q, where)
	}
}

// wantWhere: is each message at its place, once, and are there no others?
func wantWhere(t *testing.T, q *Queue, where map[string]int) {
	t.Helper()
	counts := [3]int{}
	for _, at := range where {
		counts[at]++
	}
	if len(q.Ready()) != counts[ready] || len(q.Out()) != counts[out] {
		t.Fatalf("%d are ready and %d out, want %d and %d", len(q.Ready()), len(q.Out()), counts[ready], counts[out])
	}
	for _, item := range q.Ready() {
		if at, is := where[item.Message.Body]; !is || at != ready {
			t.Fatalf("%v is ready", item)
		}
	}
	for _, item := range q.Out() {
		if where[item.Message.Body] != out {
			t.Fatalf("%v is out", item)
		}
	}
}

func TestEachMessageIsSomewhereOnce(t *testing.T) {
	for seed := range uint64(30) {
		for _, most := range []int{1, 2, 3, 8, 40} {
			wantOnce(t, New(most), seed, 300)
		}
	}
}

func TestGivenInTheOrderOfPush(t *testing.T) {
	q := New(api.MaxDepth)
	for i := range api.MaxDepth {
		q.Push(message(i))
	}
	for range 3 {
		for i := range api.MaxDepth {
			if item, is := q.Give(); !is || item.Message != message(i) {
				t.Fatalf("Give %d: %v %v", i, item, is)
			}
		}
		// Back in an order of their own: 7 and MaxDepth have no common part.
		for i := range api.MaxDepth {
			wantErr(t, "Back", q.Back(uint64(i*7%api.MaxDepth+1)), api.OK)
		}
	}
}

// All of it against the plain reckoning

func TestAllShortRowsOfCalls(t *testing.T) {
	calls := someCalls(0, 1, 2, 3)
	for most := 1; most <= 3; most++ {
		for count := 0; count <= 5; count++ {
			rows(calls, nil, count, func(row []call) {
				q, p := New(most), newPlain(most)
				for _, c := range row {
					do(t, row, c, q, p)
				}
				wantPlain(t, "a short row", q, p)
			})
		}
	}
}

func TestAllShortRowsBehindLoad(t *testing.T) {
	waiting, given := again(items(top-5)), items(top-6, top-4)
	calls := someCalls(top-6, top-5, top-4, top-2, top-1, top)
	for _, most := range []int{3, 4, 9} {
		rows(calls, nil, 4, func(row []call) {
			q, p := must(t, most, top-2, waiting, given), loaded(most, top-2, waiting, given)
			for _, c := range row {
				do(t, row, c, q, p)
			}
			wantPlain(t, "a short row behind Load", q, p)
		})
	}
}

func TestManyLongRows(t *testing.T) {
	seed := uint64(7)
	for _, most := range []int{1, 2, 5, 30, 200} {
		q, p := New(most), newPlain(most)
		for i := range 4000 {
			tag := next(&seed) % (p.next + 2)
			if near := uint64(2 * most); next(&seed)%8 > 0 && p.next > near {
				tag = p.next - 1 - next(&seed)%near
			}
			kind := []string{"Push", "Push", "Push", "Give", "Give", "Give", "Done", "Done", "Done", "Back", "Back"}[next(&seed)%11]
			if i%97 == 96 {
				kind = "Reset"
			}
			do(t, nil, call{kind, tag}, q, p)
			if i%20 == 0 {
				wantPlain(t, "a long row", q, p)
			}
			if i%400 == 399 {
				q, p = must(t, most, q.Next(), q.Ready(), q.Out()), loaded(most, p.next, p.in(ready), p.in(out))
			}
		}
		wantPlain(t, "a long row", q, p)
	}
}

// R3

// scribble writes over a list, and over the room behind its end.
func scribble(l []api.Item) {
	l = l[:cap(l)]
	for i := range l {
		l[i] = api.Item{Tag: top, Message: api.Message{Body: "scribbled"}, Again: true}
	}
}

// roomy is the same list with room behind its end, in which something stands, and all of it.
func roomy(l []api.Item) (list, whole []api.Item) {
	whole = append(slices.Clone(l), items(77, 78, 79, 80)...)
	return whole[:len(l)], whole
}

func TestWhatIsToldIsNewMemory(t *testing.T) {
	for count := 0; count <= 6; count++ {
		for outs := 0; outs <= count; outs++ {
			q, p := given(t, 9, count, outs)
			if outs > 1 {
				do(t, nil, call{"Back", 1}, q, p)
			}
			for range 2 {
				a, b, c, d := q.Ready(), q.Out(), q.Ready(), q.Out()
				scribble(a)
				scribble(b)
				wantPlain(t, "behind a scribble", q, p)
				if !slices.Equal(c, p.in(ready)) || !slices.Equal(d, p.in(out)) {
					t.Error("two answers share memory")
				}
			}
			scribble(q.Ready())
			for range 3 {
				do(t, nil, call{name: "Push"}, q, p)
			}
			scribble(q.Ready())
			wantPlain(t, "pushed behind a scribble", q, p)
		}
	}
}

func TestWhatIsToldStays(t *testing.T) {
	rows(someCalls(1, 2, 3, 4), nil, 3, func(row []call) {
		q, p := given(t, 6, 4, 2)
		do(t, nil, call{"Back", 1}, q, p)
		waiting, outs := q.Ready(), q.Out()
		wholeReady, wholeOut := slices.Clone(waiting[:cap(waiting)]), slices.Clone(outs[:cap(outs)])
		still := p.copied()
		for _, c := range row {
			do(t, row, c, q, p)
		}
		if !slices.Equal(waiting, still.in(ready)) || !slices.Equal(outs, still.in(out)) {
			t.Fatalf("%v: what was told has changed", row)
		}
		if !slices.Equal(waiting[:cap(waiting)], wholeReady) || !slices.Equal(outs[:cap(outs)], wholeOut) {
			t.Fatalf("%v: the room behind what was told has changed", row)
		}
	})
}

func TestLoadKeepsNothing(t *testing.T) {
	for _, c := range []struct{ waiting, given []api.Item }{
		{nil, nil}, {items(1), nil}, {nil, items(1)}, {items(2, 4), items(1, 3, 5)}, {items(1, 3, 5), items(2, 4)},
	} {
		waiting, wholeReady := roomy(c.waiting)
		given, wholeOut := roomy(c.given)
		q, p := must(t, 9, 9, waiting, given), loaded(9, 9, c.waiting, c.given)
		scribble(wholeReady)
		scribble(wholeOut)
		wantPlain(t, "behind a scribble", q, p)
		for _, x := range []call{{name: "Push"}, {name: "Give"}, {name: "Reset"}, {name: "Give"}, {"Done", 1}, {name: "Push"}} {
			do(t, nil, x, q, p)
			scribble(wholeReady)
			scribble(wholeOut)
			wantPlain(t, "behind a scribble", q, p)
		}
	}
}

func TestWhatIsHandedInStays(t *testing.T) {
	l, m := items(1, 3), items(2, 4)
	rows(someCalls(1, 2, 3, 4), nil, 3, func(row []call) {
		waiting, wholeReady := roomy(l)
		given, wholeOut := roomy(m)
		q, p := must(t, 9, 5, waiting, given), loaded(9, 5, l, m)
		for _, c := range row {
			do(t, row, c, q, p)
		}
		_, readyWas := roomy(l)
		_, outWas := roomy(m)
		if !slices.Equal(wholeReady, readyWas) || !slices.Equal(wholeOut, outWas) {
			t.Fatalf("%v: a list that was handed in has changed", row)
		}
	})
	for _, c := range [][2][]api.Item{{items(1, 2), items(2, 3)}, {items(2, 1), nil}, {nil, items(0)}} {
		waiting, wholeReady := roomy(c[0])
		given, wholeOut := roomy(c[1])
		Load(9, 5, waiting, given)
		_, readyWas := roomy(c[0])
		_, outWas := roomy(c[1])
		if !slices.Equal(wholeReady, readyWas) || !slices.Equal(wholeOut, outWas) {
			t.Error("a damaged list that was handed in has changed")
		}
	}
}

func TestLoadOfOneListTwice(t *testing.T) {
	l := items(1, 2, 3)
	a, b := must(t, 5, 9, l, nil), must(t, 5, 9, l, nil)
	a.Give()
	a.Back(1)
	wantPlain(t, "the other one", b, loaded(5, 9, l, nil))
	c, err := Load(5, 9, l[:2], l[2:])
	wantErr(t, "two parts of one list", err, api.OK)
	c.Push(message(1))
	c.Reset()
	if !slices.Equal(l, items(1, 2, 3)) {
		t.Errorf("two parts of one list: %v", l)
	}
}
