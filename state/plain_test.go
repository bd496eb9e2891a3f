package state

import (
	"cmp"
	"math"
	"regexp"
	"slices"
	"strings"
	"testing"

	"staith/api"
)

const top = math.MaxUint64

// What the chapters say, told anew without the layers below: the limits stand here once more, so that others of the program's are seen.
var (
	nameForm    = regexp.MustCompile(`\A[a-z0-9_-]{1,20}\z`)
	keyForm     = regexp.MustCompile(`\A([a-z0-9_-]+(\.[a-z0-9_-]+){0,11})?\z`)
	patternForm = regexp.MustCompile(`\A(([a-z0-9_-]+|\*|#)(\.([a-z0-9_-]+|\*|#)){0,11})?\z`)
)

func isName(s string) bool { return nameForm.MatchString(s) }

func isKey(s string) bool { return len(s) <= 60 && keyForm.MatchString(s) }

func isPattern(s string) bool { return len(s) <= 60 && patternForm.MatchString(s) }

func isExchange(x api.Exchange) bool { return isName(x.Name) && x.Kind >= 1 && x.Kind <= 3 }

func isMessage(m api.Message) bool {
	if m.Ident.Origin < 1 || m.Ident.Origin > 8 || m.Ident.Seq == 0 || m.Hop < 0 || m.Hop > 8 {
		return false
	}
	return isName(m.Exchange) && isKey(m.Key) && len(m.Body) <= 200
}

// isAct takes what is named out of an act, and looks at what is left.
func isAct(a api.Act) bool {
	left, good := a, false
	left.Kind = 0
	switch a.Kind {
	case api.ActQueue:
		good = isName(a.Name) && a.N >= 1 && a.N <= 1000
		left.Name, left.N = "", 0
	case api.ActNoQueue, api.ActNoEx, api.ActGive:
		good = isName(a.Name)
		left.Name = ""
	case api.ActExchange:
		good = isExchange(a.Exchange)
		left.Exchange = api.Exchange{}
	case api.ActBind, api.ActUnbind:
		good = isName(a.Binding.Exchange) && isName(a.Binding.Queue) && len(a.Binding.Pattern) <= 60
		left.Binding = api.Binding{}
	case api.ActEnter:
		good = isMessage(a.Message)
		left.Message = api.Message{}
	case api.ActAck, api.ActBack:
		good = isName(a.Name) && a.Tag > 0
		left.Name, left.Tag = "", 0
	case api.ActSent:
		good = a.To >= 1 && a.To <= 8 && a.N >= 1 && a.N <= 200
		left.To, left.N = 0, 0
	case api.ActBoot:
		good = true
	}
	return good && left == api.Act{}
}

// stands: do the words of a key stand for those of a pattern?
func stands(pattern, key []string) bool {
	switch {
	case len(pattern) == 0:
		return len(key) == 0
	case pattern[0] == "#":
		return stands(pattern[1:], key) || len(key) > 0 && stands(pattern, key[1:])
	case len(key) == 0:
		return false
	}
	return (pattern[0] == "*" || pattern[0] == key[0]) && stands(pattern[1:], key[1:])
}

func words(s string) []string {
	if s == "" {
		return nil
	}
	return strings.Split(s, ".")
}

// bound: may a binding of an exchange of that kind have that pattern?
func bound(kind int, pattern string) bool {
	switch kind {
	case api.Direct:
		return isKey(pattern)
	case api.Fanout:
		return pattern == ""
	}
	return isPattern(pattern)
}

// fits: does a binding of an exchange of that kind lead on a message with that key?
func fits(kind int, pattern, key string) bool {
	switch kind {
	case api.Direct:
		return pattern == key
	case api.Fanout:
		return true
	}
	return stands(words(pattern), words(key))
}

func isWorld(t api.Topology) bool {
	if t.Sites < 1 || t.Sites > 8 || t.Hops < 0 || t.Hops > 8 {
		return false
	}
	for i, e := range t.Edges {
		if e.From < 1 || e.From > t.Sites || e.To < 1 || e.To > t.Sites || e.From == e.To || slices.Contains(t.Edges[:i], e) {
			return false
		}
	}
	return true
}

// far: how many edges there are from one site to another; 100, if there is no way.
func far(t api.Topology, from, to int) int {
	if from < 1 || from > t.Sites || to < 1 || to > t.Sites {
		return 100
	}
	if from == to {
		return 0
	}
	// All that can be reached by that many edges.
	reached := []int{from}
	for n := 1; n <= t.Sites; n++ {
		for _, site := range slices.Clone(reached) {
			for _, e := range t.Edges {
				if e.From == site {
					reached = append(reached, e.To)
				}
			}
		}
		slices.Sort(reached)
		reached = slices.Compact(reached)
		if slices.Contains(reached, to) {
			return n
		}
	}
	return 100
}

// isEdge: does one lead from a site to another?
func isEdge(t api.Topology, from, to int) bool {
	return slices.Contains(t.Edges, api.Edge{From: from, To: to})
}

// held is an item of a line, ready or out.
type held struct {
	item api.Item
	out  bool
}

// line is a queue: its items by tags.
type line struct {
	name  string
	most  int
	next  uint64
	items []held
}

func (l *line) in(out bool) []api.Item {
	var is []api.Item
	for _, h := range l.items {
		if h.out == out {
			is = append(is, h.item)
		}
	}
	return is
}

// outAt: where the one with that tag is, if it is out; -1.
func (l *line) outAt(tag uint64) int {
	return slices.IndexFunc(l.items, func(h held) bool { return h.out && h.item.Tag == tag })
}

func (l *line) back(at int) {
	l.items[at].out = false
	l.items[at].item.Again = true
}

// marked is numbers of an origin that were seen.
type marked struct {
	origin int
	lo, hi uint64
}

// waiting is a message that waits for a site.
type waiting struct {
	to int
	m  api.Message
}

// plain is a state in lists, all as it came: what a State is held against.
type plain struct {
	site      int
	world     api.Topology
	seq       uint64
	boots     uint64
	exchanges []api.Exchange
	bindings  []api.Binding
	lines     []*line
	seen      []marked
	waits     []waiting
}

func newPlain(site int, t api.Topology) *plain {
	t.Edges = slices.Clone(t.Edges)
	return &plain{site: site, world: t}
}

func (p *plain) copied() *plain {
	other := *p
	other.exchanges, other.bindings = slices.Clone(p.exchanges), slices.Clone(p.bindings)
	other.seen, other.waits = slices.Clone(p.seen), slices.Clone(p.waits)
	other.lines = nil
	for _, l := range p.lines {
		next := *l
		next.items = slices.Clone(l.items)
		other.lines = append(other.lines, &next)
	}
	return &other
}

func (p *plain) line(name string) *line {
	for _, l := range p.lines {
		if l.name == name {
			return l
		}
	}
	return nil
}

func (p *plain) exchange(name string) (api.Exchange, bool) {
	for _, x := range p.exchanges {
		if x.Name == name {
			return x, true
		}
	}
	return api.Exchange{}, false
}

func (p *plain) has(id api.Ident) bool {
	return slices.ContainsFunc(p.seen, func(m marked) bool {
		return m.origin == id.Origin && m.lo <= id.Seq && id.Seq <= m.hi
	})
}

func (p *plain) link(to int) []api.Message {
	var l []api.Message
	for _, w := range p.waits {
		if w.to == to {
			l = append(l, w.m)
		}
	}
	return l
}

// apply is Apply, by the chapter's words.
func (p *plain) apply(a api.Act) ([]string, api.Errno) {
	if !isAct(a) {
		return nil, api.ErrInput
	}
	l := p.line(a.Name)
	switch a.Kind {
	case api.ActQueue:
		return nil, p.queue(a, l)
	case api.ActExchange:
		return nil, p.declare(a.Exchange)
	case api.ActNoEx:
		return nil, p.drop(a.Name)
	case api.ActBind:
		return nil, p.bind(a.Binding)
	case api.ActUnbind:
		at := slices.Index(p.bindings, a.Binding)
		if at < 0 {
			return nil, api.ErrMissing
		}
		p.bindings = slices.Delete(p.bindings, at, at+1)
		return nil, api.OK
	case api.ActEnter:
		return p.enter(a.Message)
	case api.ActSent:
		return nil, p.sent(a.To, a.N)
	case api.ActBoot:
		p.boots++
		for _, l := range p.lines {
			for i, h := range l.items {
				if h.out {
					l.back(i)
				}
			}
		}
		return nil, api.OK
	}
	if l == nil {
		return nil, api.ErrMissing
	}
	return nil, p.ofQueue(a, l)
}

func (p *plain) queue(a api.Act, l *line) api.Errno {
	switch {
	case l != nil && l.most == a.N:
		return api.OK
	case l != nil:
		return api.ErrKind
	case len(p.lines) == 16:
		return api.ErrLimit
	}
	p.lines = append(p.lines, &line{name: a.Name, most: a.N, next: 1})
	return api.OK
}

// ofQueue does the acts of a queue that is there.
func (p *plain) ofQueue(a api.Act, l *line) api.Errno {
	switch a.Kind {
	case api.ActNoQueue:
		p.lines = slices.DeleteFunc(p.lines, func(other *line) bool { return other == l })
		p.bindings = slices.DeleteFunc(p.bindings, func(b api.Binding) bool { return b.Queue == a.Name })
		return api.OK
	case api.ActGive:
		for i := range l.items {
			if !l.items[i].out {
				l.items[i].out = true
				return api.OK
			}
		}
		return api.ErrStale
	}
	at := l.outAt(a.Tag)
	if at < 0 {
		return api.ErrStale
	}
	if a.Kind == api.ActBack {
		l.back(at)
	} else {
		l.items = slices.Delete(l.items, at, at+1)
	}
	return api.OK
}

func (p *plain) declare(x api.Exchange) api.Errno {
	there, is := p.exchange(x.Name)
	switch {
	case is && there != x:
		return api.ErrKind
	case is:
		return api.OK
	case len(p.exchanges) == 8:
		return api.ErrLimit
	}
	p.exchanges = append(p.exchanges, x)
	return api.OK
}

func (p *plain) drop(name string) api.Errno {
	if _, is := p.exchange(name); !is {
		return api.ErrMissing
	}
	p.exchanges = slices.DeleteFunc(p.exchanges, func(x api.Exchange) bool { return x.Name == name })
	p.bindings = slices.DeleteFunc(p.bindings, func(b api.Binding) bool { return b.Exchange == name })
	return api.OK
}

func (p *plain) bind(b api.Binding) api.Errno {
	x, is := p.exchange(b.Exchange)
	switch {
	case p.line(b.Queue) == nil:
		return api.ErrMissing
	case !is:
		return api.ErrMissing
	case !bound(x.Kind, b.Pattern):
		return api.ErrInput
	case slices.Contains(p.bindings, b):
		return api.OK
	case len(p.bindings) == 32:
		return api.ErrLimit
	}
	p.bindings = append(p.bindings, b)
	return api.OK
}

// entry: the first error of a message that would enter, but for the room, and whether it goes onward.
func (p *plain) entry(m api.Message) (bool, api.Errno) {
	if m.Ident.Origin != p.site {
		way := far(p.world, m.Ident.Origin, p.site)
		switch {
		case p.has(m.Ident):
			return false, api.ErrTaken
		case m.Hop != way, way > p.world.Hops:
			return false, api.ErrInput
		}
		return true, api.OK
	}
	x, is := p.exchange(m.Exchange)
	switch {
	case p.seq == top:
		return false, api.ErrOver
	case m.Ident.Seq != p.seq+1:
		return false, api.ErrStale
	case m.Hop != 0:
		return false, api.ErrInput
	case !is:
		return false, api.ErrMissing
	}
	return x.Federated, api.OK
}

func (p *plain) enter(m api.Message) ([]string, api.Errno) {
	onward, err := p.entry(m)
	if err != api.OK {
		return nil, err
	}
	var into []string
	x, _ := p.exchange(m.Exchange)
	for _, b := range p.bindings {
		if b.Exchange == m.Exchange && fits(x.Kind, b.Pattern, m.Key) && p.line(b.Queue) != nil {
			into = append(into, b.Queue)
		}
	}
	slices.Sort(into)
	into = slices.Compact(into)
	var to []int
	for site := 1; site <= 8; site++ {
		if onward && site != m.Ident.Origin && isEdge(p.world, p.site, site) && far(p.world, m.Ident.Origin, p.site) < p.world.Hops {
			to = append(to, site)
		}
	}
	for _, name := range into {
		if l := p.line(name); len(l.items) >= l.most || l.next == top {
			return nil, api.ErrSpace
		}
	}
	for _, site := range to {
		if len(p.link(site)) >= 200 {
			return nil, api.ErrSpace
		}
	}
	p.take(m, into, to)
	return into, api.OK
}

// take: a message enters these queues, and waits for these sites.
func (p *plain) take(m api.Message, into []string, to []int) {
	p.seen = append(p.seen, marked{m.Ident.Origin, m.Ident.Seq, m.Ident.Seq})
	if m.Ident.Origin == p.site {
		p.seq = m.Ident.Seq
	}
	for _, name := range into {
		l := p.line(name)
		l.items = append(l.items, held{item: api.Item{Tag: l.next, Message: m}})
		l.next++
	}
	for _, site := range to {
		next := m
		next.Hop = m.Hop + 1
		p.waits = append(p.waits, waiting{site, next})
	}
}

func (p *plain) sent(to, n int) api.Errno {
	if !isEdge(p.world, p.site, to) {
		return api.ErrMissing
	}
	if len(p.link(to)) < n {
		return api.ErrStale
	}
	p.waits = slices.DeleteFunc(p.waits, func(w waiting) bool {
		if w.to == to && n > 0 {
			n--
			return true
		}
		return false
	})
	return api.OK
}

// ranges: what was seen of an origin, rising, apart.
func (p *plain) ranges(origin int) []api.Range {
	var l, apart []api.Range
	for _, m := range p.seen {
		if m.origin == origin {
			l = append(l, api.Range{Lo: m.lo, Hi: m.hi})
		}
	}
	slices.SortFunc(l, func(a, b api.Range) int { return cmp.Compare(a.Lo, b.Lo) })
	for _, r := range l {
		if n := len(apart); n > 0 && apart[n-1].Hi >= r.Lo-1 {
			apart[n-1].Hi = max(apart[n-1].Hi, r.Hi)
			continue
		}
		apart = append(apart, r)
	}
	return apart
}

func (p *plain) part(l *line) QueuePart {
	return QueuePart{Name: l.name, Most: l.most, Next: l.next, Ready: l.in(false), Out: l.in(true)}
}

func (p *plain) parts() Parts {
	all := Parts{Seq: p.seq, Boots: p.boots, Exchanges: slices.Clone(p.exchanges), Bindings: slices.Clone(p.bindings)}
	slices.SortFunc(all.Exchanges, byExchange)
	slices.SortFunc(all.Bindings, byBinding)
	for _, l := range p.lines {
		all.Queues = append(all.Queues, p.part(l))
	}
	slices.SortFunc(all.Queues, byQueue)
	for n := 1; n <= 8; n++ {
		if l := p.ranges(n); len(l) > 0 {
			all.Seen = append(all.Seen, SeenPart{Origin: n, Ranges: l})
		}
		if l := p.link(n); len(l) > 0 {
			all.Links = append(all.Links, LinkPart{To: n, Messages: l})
		}
	}
	return all
}

func byExchange(a, b api.Exchange) int { return strings.Compare(a.Name, b.Name) }

func byBinding(a, b api.Binding) int {
	// No sign of a name or a pattern is below this one, so what is shorter comes first.
	return strings.Compare(a.Exchange+"\x00"+a.Queue+"\x00"+a.Pattern, b.Exchange+"\x00"+b.Queue+"\x00"+b.Pattern)
}

func byQueue(a, b QueuePart) int { return strings.Compare(a.Name, b.Name) }

func bySeen(a, b SeenPart) int { return cmp.Compare(a.Origin, b.Origin) }

func byLink(a, b LinkPart) int { return cmp.Compare(a.To, b.To) }

// rise: does each stand behind the one ahead of it?
func rise[T any](l []T, order func(a, b T) int) bool {
	for i := range l {
		if i > 0 && order(l[i-1], l[i]) >= 0 {
			return false
		}
	}
	return true
}

// right: is there a state with these parts? By the chapter's words.
func right(site int, t api.Topology, p Parts) bool {
	if !isWorld(t) || site < 1 || site > t.Sites {
		return false
	}
	if !rise(p.Exchanges, byExchange) || !rise(p.Bindings, byBinding) || !rise(p.Queues, byQueue) || !rise(p.Seen, bySeen) || !rise(p.Links, byLink) {
		return false
	}
	if len(p.Exchanges) > 8 || len(p.Bindings) > 32 || len(p.Queues) > 16 {
		return false
	}
	for _, x := range p.Exchanges {
		if !isExchange(x) {
			return false
		}
	}
	for _, b := range p.Bindings {
		at := slices.IndexFunc(p.Exchanges, func(x api.Exchange) bool { return x.Name == b.Exchange })
		if at < 0 || !isName(b.Queue) || !bound(p.Exchanges[at].Kind, b.Pattern) {
			return false
		}
	}
	for _, q := range p.Queues {
		if !isName(q.Name) || !rightQueue(q) {
			return false
		}
	}
	for _, s := range p.Seen {
		if s.Origin < 1 || s.Origin > 8 || len(s.Ranges) == 0 || !rightRanges(s.Ranges) {
			return false
		}
	}
	for _, l := range p.Links {
		if !isEdge(t, site, l.To) || len(l.Messages) == 0 || len(l.Messages) > 200 {
			return false
		}
		for _, m := range l.Messages {
			if !isMessage(m) {
				return false
			}
		}
	}
	return true
}

func rightQueue(q QueuePart) bool {
	if q.Most < 1 || q.Most > 1000 || q.Next == 0 || len(q.Ready)+len(q.Out) > q.Most {
		return false
	}
	for _, l := range [][]api.Item{q.Ready, q.Out} {
		for i, item := range l {
			if item.Tag == 0 || item.Tag >= q.Next || i > 0 && l[i-1].Tag >= item.Tag {
				return false
			}
		}
	}
	for _, item := range q.Ready {
		if slices.ContainsFunc(q.Out, func(other api.Item) bool { return other.Tag == item.Tag }) {
			return false
		}
	}
	return true
}

func rightRanges(l []api.Range) bool {
	for i, r := range l {
		if r.Lo == 0 || r.Hi < r.Lo || i > 0 && (l[i-1].Hi == top || r.Lo <= l[i-1].Hi+1) {
			return false
		}
	}
	return true
}

// plainOf is the plain state of parts that are right.
func plainOf(site int, t api.Topology, parts Parts) *plain {
	p := newPlain(site, t)
	p.seq, p.boots = parts.Seq, parts.Boots
	p.exchanges, p.bindings = slices.Clone(parts.Exchanges), slices.Clone(parts.Bindings)
	for _, q := range parts.Queues {
		l := &line{name: q.Name, most: q.Most, next: q.Next}
		for _, item := range q.Ready {
			l.items = append(l.items, held{item: item})
		}
		for _, item := range q.Out {
			l.items = append(l.items, held{item: item, out: true})
		}
		slices.SortFunc(l.items, func(a, b held) int { return cmp.Compare(a.item.Tag, b.item.Tag) })
		p.lines = append(p.lines, l)
	}
	for _, s := range parts.Seen {
		for _, r := range s.Ranges {
			p.seen = append(p.seen, marked{s.Origin, r.Lo, r.Hi})
		}
	}
	for _, l := range parts.Links {
		for _, m := range l.Messages {
			p.waits = append(p.waits, waiting{l.To, m})
		}
	}
	return p
}

func sameQueue(a, b QueuePart) bool {
	return a.Name == b.Name && a.Most == b.Most && a.Next == b.Next && slices.Equal(a.Ready, b.Ready) && slices.Equal(a.Out, b.Out)
}

// sameParts: are they alike? No list and an empty one are the same.
func sameParts(a, b Parts) bool {
	if a.Seq != b.Seq || a.Boots != b.Boots || !slices.Equal(a.Exchanges, b.Exchanges) || !slices.Equal(a.Bindings, b.Bindings) {
		return false
	}
	return slices.EqualFunc(a.Queues, b.Queues, sameQueue) &&
		slices.EqualFunc(a.Seen, b.Seen, func(a, b SeenPart) bool {
			return a.Origin == b.Origin && slices.Equal(a.Ranges, b.Ranges)
		}) &&
		slices.EqualFunc(a.Links, b.Links, func(a, b LinkPart) bool {
			return a.To == b.To && slices.Equal(a.Messages, b.Messages)
		})
}

// wantParts holds a state's Parts against others.
func wantParts(t *testing.T, what string, s *State, want Parts) {
	t.Helper()
	if got := s.Parts(); !sameParts(got, want) {
		t.Fatalf("%s: Parts:\n%+v\nwant\n%+v", what, got, want)
	}
}

// everySite is each number that a site may have, and some that it may not.
func everySite() []int {
	return []int{math.MinInt, -1, 0, 1, 2, 3, 4, 5, 6, 7, 8, 9, 100, math.MaxInt}
}

// wantPlain holds all that a state tells against a plain one.
func wantPlain(t *testing.T, what string, s *State, p *plain) {
	t.Helper()
	wantParts(t, what, s, p.parts())
	for _, to := range everySite() {
		if got, want := s.Link(to), p.link(to); !slices.Equal(got, want) {
			t.Fatalf("%s: Link(%d): %+v, want %+v", what, to, got, want)
		}
		for _, seq := range []uint64{0, 1, 2, 3, 4, 5, top - 1, top} {
			id := api.Ident{Origin: to, Seq: seq}
			if got, want := s.Has(id), p.has(id); got != want {
				t.Fatalf("%s: Has(%v): %v, want %v", what, id, got, want)
			}
		}
	}
	for _, name := range []string{"", "p", "q", "q1", "r", "x", "Q", "none", strings.Repeat("q", 21)} {
		wantQueue(t, what, s, p, name)
	}
	for _, l := range p.lines {
		wantQueue(t, what, s, p, l.name)
	}
}

func wantQueue(t *testing.T, what string, s *State, p *plain, name string) {
	t.Helper()
	want := QueuePart{}
	if l := p.line(name); l != nil {
		want = p.part(l)
	}
	if got, is := s.Queue(name); is != (p.line(name) != nil) || !sameQueue(got, want) {
		t.Fatalf("%s: Queue(%q): %+v %v, want %+v", what, name, got, is, want)
	}
}

// do applies an act to both, and holds what they answer against each other; the error.
func do(t *testing.T, what string, s *State, p *plain, a api.Act) api.Errno {
	t.Helper()
	got, err := s.Apply(a)
	want, wantErr := p.apply(a)
	if err != wantErr || !slices.Equal(got, want) {
		t.Fatalf("%s: Apply(%+v): %v %v, want %v %v", what, a, got, err, want, wantErr)
	}
	return err
}
