package vault

import (
	"fmt"
	"math"
	"math/rand"
	"slices"
	"strings"
	"sync"
	"testing"

	"staith/api"
	"staith/ledger"
	"staith/seal"
	"staith/state"
	"staith/still"
	"staith/store"
	"staith/word"
)

func queue(name string, n int) api.Act { return api.Act{Kind: api.ActQueue, Name: name, N: n} }

func exchange(name string, kind int, federated bool) api.Act {
	return api.Act{Kind: api.ActExchange, Exchange: api.Exchange{Name: name, Kind: kind, Federated: federated}}
}

func binding(x, q, pattern string) api.Act {
	return api.Act{Kind: api.ActBind, Binding: api.Binding{Exchange: x, Queue: q, Pattern: pattern}}
}

func message(origin int, seq uint64, hop int, x, key, body string) api.Message {
	return api.Message{Ident: api.Ident{Origin: origin, Seq: seq}, Hop: hop, Exchange: x, Key: key, Body: body}
}

func enter(m api.Message) api.Act { return api.Act{Kind: api.ActEnter, Message: m} }

// published is a message of site 1.
func published(seq uint64) api.Act { return enter(message(1, seq, 0, "x", "k", "b")) }

func give(name string) api.Act { return api.Act{Kind: api.ActGive, Name: name} }

func ack(name string, tag uint64) api.Act { return api.Act{Kind: api.ActAck, Name: name, Tag: tag} }

func back(name string, tag uint64) api.Act { return api.Act{Kind: api.ActBack, Name: name, Tag: tag} }

func sent(to, n int) api.Act { return api.Act{Kind: api.ActSent, To: to, N: n} }

func boot() api.Act { return api.Act{Kind: api.ActBoot} }

// boots is many acts that all may be done.
func boots(n int) []api.Act { return slices.Repeat([]api.Act{boot()}, n) }

// tables are acts that make two queues, of which x leads to both, and to site 2.
func tables() []api.Act {
	return []api.Act{exchange("x", api.Fanout, true), queue("q", 5), queue("r", 3), binding("x", "q", ""), binding("x", "r", "")}
}

// world is a topology; pairs are From and To.
func world(sites, hops int, pairs ...int) api.Topology {
	t := api.Topology{Sites: sites, Hops: hops}
	for i := 0; i < len(pairs); i += 2 {
		t.Edges = append(t.Edges, api.Edge{From: pairs[i], To: pairs[i+1]})
	}
	return t
}

// two are sites with an edge to and fro.
func two() api.Topology { return world(2, 2, 1, 2, 2, 1) }

// set are settings, of which only the log's matter here.
func set(segment, keep int) api.Settings {
	return api.Settings{Window: 4, Timeout: 3, Segment: segment, Keep: keep}
}

// rare are settings with which no checkpoint comes soon.
func rare() api.Settings { return set(1<<20, 1000) }

func wantErr(t *testing.T, what string, got, want api.Errno) {
	t.Helper()
	if got != want {
		t.Fatalf("%s: %v, want %v", what, got, want)
	}
}

func wantSame[T int | uint64 | bool | string](t *testing.T, what string, got, want T) {
	t.Helper()
	if got != want {
		t.Fatalf("%s: %v, want %v", what, got, want)
	}
}

// held is all that a store tells.
func held(s *store.Store) string {
	var l []string
	for _, name := range s.Names() {
		b, err := s.Read(name)
		l = append(l, fmt.Sprintf("%s %q %v", name, b, err))
	}
	return fmt.Sprint(strings.Join(l, "\n"), "\n", s.Used(), s.Count(), s.On())
}

// read is a file's bytes, as a text.
func read(t *testing.T, s *store.Store, name string) string {
	t.Helper()
	b, err := s.Read(name)
	wantErr(t, "Read of "+name, err, api.OK)
	return string(b)
}

// laid is a store with files: their names and bytes, all of them sure.
func laid(t *testing.T, room int, files ...string) *store.Store {
	t.Helper()
	s := store.New(room)
	for i := 0; i < len(files); i += 2 {
		wantErr(t, "Make", s.Make(files[i]), api.OK)
		wantErr(t, "Write", s.Write(files[i], []byte(files[i+1])), api.OK)
		wantErr(t, "Sync", s.Sync(files[i]), api.OK)
	}
	wantErr(t, "Commit", s.Commit(), api.OK)
	return s
}

// seals is records as a part of the log has them.
func seals(records ...[]byte) string {
	var b []byte
	for _, r := range records {
		b = append(b, seal.Seal(r)...)
	}
	return string(b)
}

// checkOf is a checkpoint's file.
func checkOf(first uint64, check []byte) string {
	return seals(append(word.Put(nil, 8, first), check...))
}

// opened is a vault of site 1 of two.
func opened(t *testing.T, s *store.Store, x api.Settings) *Vault {
	t.Helper()
	v, err := Open(s, 1, two(), x)
	wantErr(t, "Open", err, api.OK)
	if v == nil {
		t.Fatal("Open: no vault")
	}
	wantSame(t, "On behind Open", v.On(), true)
	wantSame(t, "Pending behind Open", v.Pending(), 0)
	return v
}

// wantShut: there is no vault of site 1 of two.
func wantShut(t *testing.T, what string, s *store.Store, x api.Settings, want api.Errno) {
	t.Helper()
	v, err := Open(s, 1, two(), x)
	wantErr(t, what+": Open", err, want)
	if v != nil {
		t.Fatalf("%s: Open: a vault beside an error", what)
	}
}

// does does acts that have no error; the queues that are told.
func does(t *testing.T, v *Vault, acts ...api.Act) []string {
	t.Helper()
	before := v.Pending()
	told, err := v.Do(acts...)
	wantErr(t, "Do", err, api.OK)
	wantSame(t, "Pending behind Do", v.Pending(), before+len(acts))
	return told
}

func flushes(t *testing.T, v *Vault) {
	t.Helper()
	wantErr(t, "Flush", v.Flush(), api.OK)
	wantSame(t, "Pending behind Flush", v.Pending(), 0)
	wantSame(t, "On behind Flush", v.On(), true)
}

// behind is the state of site 1 of two behind acts.
func behind(t *testing.T, acts ...api.Act) *state.State {
	t.Helper()
	s := state.New(1, two())
	for _, a := range acts {
		if _, err := s.Apply(a); err != api.OK {
			t.Fatalf("Apply(%+v): %v", a, err)
		}
	}
	return s
}

// cycle is a failure of power that is over.
func cycle(s *store.Store, keep int) {
	s.Fail(keep)
	s.Power()
}

func TestExample(t *testing.T) {
	s := store.New(50000)
	v := opened(t, s, rare())
	does(t, v, queue("q", 5))
	flushes(t, v)
	s.Fail(0)
	s.Power()
	v = opened(t, s, rare())
	q, ok := v.State().Queue("q")
	wantSame(t, "is it there", ok, true)
	wantSame(t, "how many it holds", q.Most, 5)
	wantSame(t, "Boots", v.State().Parts().Boots, 2)
}

// P16.1: Good

func TestGood(t *testing.T) {
	limits := []struct {
		name      string
		low, high int
		put       func(x *api.Settings, n int)
	}{
		{"Window", 1, 32, func(x *api.Settings, n int) { x.Window = n }},
		{"Timeout", 1, 1000, func(x *api.Settings, n int) { x.Timeout = n }},
		{"Segment", 64, 1 << 20, func(x *api.Settings, n int) { x.Segment = n }},
		{"Keep", 1, 1000, func(x *api.Settings, n int) { x.Keep = n }},
	}
	for _, base := range []api.Settings{{Window: 1, Timeout: 1, Segment: 64, Keep: 1}, {Window: 32, Timeout: 1000, Segment: 1 << 20, Keep: 1000}, rare()} {
		wantSame(t, fmt.Sprintf("Good(%+v)", base), Good(base), true)
		for _, l := range limits {
			for _, n := range []int{math.MinInt, -1, 0, 1, 2, 31, 32, 33, 63, 64, 65, 500, 999, 1000, 1001, 1<<20 - 1, 1 << 20, 1<<20 + 1, math.MaxInt} {
				x := base
				l.put(&x, n)
				want := l.low <= n && n <= l.high
				wantSame(t, fmt.Sprintf("Good(%+v)", x), Good(x), want)
				v, err := Open(store.New(10000), 1, two(), x)
				if (v != nil) != want || (err == api.OK) != want || !want && err != api.ErrInput {
					t.Fatalf("Open with %+v: %v", x, err)
				}
			}
		}
	}
	wantSame(t, "Good of nothing", Good(api.Settings{}), false)
}

// P16.1: Open

func TestOpenOfWhatMayNotBe(t *testing.T) {
	bad := set(63, 10)
	dark := store.New(1000)
	dark.Fail(0)
	torn := laid(t, 1000, "check", "torn")
	full := store.New(0)
	cases := []struct {
		what string
		s    *store.Store
		site int
		w    api.Topology
		x    api.Settings
		want api.Errno
	}{
		{"settings", store.New(1000), 1, two(), bad, api.ErrInput},
		{"site 0", store.New(1000), 0, two(), rare(), api.ErrInput},
		{"site -1", store.New(1000), -1, two(), rare(), api.ErrInput},
		{"site 3 of 2", store.New(1000), 3, two(), rare(), api.ErrInput},
		{"the greatest site", store.New(1000), math.MaxInt, two(), rare(), api.ErrInput},
		{"no topology", store.New(1000), 1, api.Topology{}, rare(), api.ErrInput},
		{"an edge to nowhere", store.New(1000), 1, world(2, 1, 1, 3), rare(), api.ErrInput},
		{"an edge twice", store.New(1000), 1, world(2, 1, 1, 2, 1, 2), rare(), api.ErrInput},
		{"no store", nil, 1, two(), rare(), api.ErrUnmade},
		{"a store that no call made", &store.Store{}, 1, two(), rare(), api.ErrUnmade},
		{"no power", dark, 1, two(), rare(), api.ErrDark},
		{"a torn checkpoint", torn, 1, two(), rare(), api.ErrDamage},
		{"no room", full, 1, two(), rare(), api.ErrSpace},
		{"settings ahead of no store", nil, 1, two(), bad, api.ErrInput},
		{"settings ahead of no power", dark, 1, two(), bad, api.ErrInput},
		{"settings ahead of damage", torn, 1, two(), bad, api.ErrInput},
		{"a site ahead of no store", nil, 3, two(), rare(), api.ErrInput},
		{"a site ahead of no power", dark, 3, two(), rare(), api.ErrInput},
		{"a site ahead of damage", torn, 3, two(), rare(), api.ErrInput},
	}
	for _, c := range cases {
		before := held(c.s)
		v, err := Open(c.s, c.site, c.w, c.x)
		wantErr(t, c.what, err, c.want)
		if v != nil {
			t.Fatalf("%s: a vault beside an error", c.what)
		}
		wantSame(t, c.what+": the store", held(c.s), before)
	}
}

func TestOpenOfAnEmptyStore(t *testing.T) {
	s := store.New(1000)
	v := opened(t, s, rare())
	wantState(t, "Open", v.State(), behind(t, boot()))
	wantSame(t, "the log", read(t, s, "log.1"), seals([]byte{0, 1, 0, 1, 12}))
	wantSame(t, "the files", fmt.Sprint(s.Names()), "[log.1]")
	before := held(s)
	cycle(s, 0)
	wantSame(t, "what Open left is sure", held(s), before)
}

func TestOpenIsOfItsSite(t *testing.T) {
	w := world(3, 2, 1, 2, 2, 3, 3, 1)
	for site := 1; site <= 3; site++ {
		v, err := Open(store.New(1000), site, w, rare())
		wantErr(t, "Open", err, api.OK)
		does(t, v, exchange("x", api.Fanout, true), enter(message(site, 1, 0, "x", "", "")))
		for to := 1; to <= 3; to++ {
			wantSame(t, fmt.Sprintf("Link(%d) at %d", to, site), len(v.State().Link(to)) == 1, to == site%3+1)
		}
	}
}

// TestOpenAppliesRecords: whoever wrote them.
func TestOpenAppliesRecords(t *testing.T) {
	first, second := tables(), []api.Act{published(1), give("q"), published(2)}
	s := laid(t, 10000, "log.1", seals(plainRecord(first...)), "log.2", seals(plainRecord(second[0]), plainRecord(second[1:]...)))
	v := opened(t, s, rare())
	wantState(t, "Open", v.State(), behind(t, slices.Concat(first, second, boots(1))...))
	wantSame(t, "part 1", read(t, s, "log.1"), seals(plainRecord(first...)))
	wantSame(t, "part 2", read(t, s, "log.2"), seals(plainRecord(second[0]), plainRecord(second[1:]...), plainRecord(boot())))
}

func TestOpenReadsTheCheckpoint(t *testing.T) {
	first, second := append(tables(), published(1), give("r")), []api.Act{published(2), ack("r", 1)}
	check := checkOf(7, still.Bytes(behind(t, first...)))
	s := laid(t, 10000, "check", check, "log.7", seals(plainRecord(second...)))
	v := opened(t, s, rare())
	wantState(t, "Open", v.State(), behind(t, slices.Concat(first, second, boots(1))...))
	wantSame(t, "the checkpoint", read(t, s, "check"), check)
	s = laid(t, 10000, "check", check)
	wantState(t, "without records", opened(t, s, rare()).State(), behind(t, append(first, boot())...))
}

func TestACheckpointWithoutBytes(t *testing.T) {
	s := laid(t, 10000, "check", checkOf(3, nil), "log.3", seals(plainRecord(queue("q", 1))))
	wantState(t, "Open", opened(t, s, rare()).State(), behind(t, queue("q", 1), boot()))
}

func TestWhatWasGivenOutIsReady(t *testing.T) {
	s := store.New(10000)
	v := opened(t, s, rare())
	does(t, v, tables()...)
	does(t, v, published(1), published(2), published(3))
	does(t, v, give("q"), give("q"), ack("q", 1), give("r"))
	flushes(t, v)
	cycle(s, 0)
	q, _ := opened(t, s, rare()).State().Queue("q")
	wantSame(t, "q", fmt.Sprint(len(q.Out), len(q.Ready), q.Ready[0].Tag, q.Ready[0].Again, q.Ready[1].Tag, q.Ready[1].Again), "0 2 2 true 3 false")
	r, _ := opened(t, s, rare()).State().Queue("r")
	wantSame(t, "r", fmt.Sprint(len(r.Out), len(r.Ready), r.Ready[0].Tag, r.Ready[0].Again, r.Ready[1].Again), "0 3 1 true false")
}

func TestCheckpointsThatAreDamage(t *testing.T) {
	good := still.Bytes(behind(t, append(tables(), published(1))...))
	wantState(t, "the good one", opened(t, laid(t, 10000, "check", checkOf(1, good)), rare()).State(), behind(t, append(tables(), published(1), boot())...))
	for what, b := range map[string][]byte{
		"cut":       good[:len(good)-1],
		"longer":    append(slices.Clone(good), 0),
		"one byte":  {0},
		"35 bytes":  make([]byte, 35),
		"no state":  []byte(strings.Repeat("x", 100)),
		"of site 3": still.Bytes(linked(t)),
	} {
		wantShut(t, what, laid(t, 10000, "check", checkOf(1, b)), rare(), api.ErrDamage)
	}
	s := laid(t, 10000, "check", checkOf(1, good)+"x")
	wantShut(t, "bytes behind the seal", s, rare(), api.ErrDamage)
	wantShut(t, "no first part", laid(t, 10000, "check", checkOf(0, good)), rare(), api.ErrDamage)
	wantShut(t, "a part that lacks", laid(t, 10000, "check", checkOf(1, good), "log.2", ""), rare(), api.ErrDamage)
	// For another topology the same bytes are none: nothing can wait for 2, if no edge leads there.
	v, err := Open(laid(t, 10000, "check", checkOf(1, good)), 1, world(2, 2, 2, 1), rare())
	wantErr(t, "another topology", err, api.ErrDamage)
	wantSame(t, "another topology", v == nil, true)
}

// linked is a state in which something waits for a site that no edge leads to from site 1 of two.
func linked(t *testing.T) *state.State {
	t.Helper()
	s := state.New(1, world(3, 1, 1, 3))
	s.Apply(exchange("x", api.Fanout, true))
	if _, err := s.Apply(published(1)); err != api.OK {
		t.Fatal(err)
	}
	return s
}

func TestRecordsThatAreDamage(t *testing.T) {
	good := plainRecord(queue("q", 2))
	wrong := map[string][]byte{
		"no bytes":                  nil,
		"one byte":                  {0},
		"a torn one":                good[:len(good)-1],
		"a longer one":              append(slices.Clone(good), 0),
		"another count":             {0, 2, 0, 1, 12},
		"no act":                    {0, 1, 0, 1, 13},
		"an act that is not good":   {0, 1, 0, 4, 8, 0, 1, 'Q'},
		"an act with an error":      plainRecord(give("nobody")),
		"an error behind others":    plainRecord(queue("a", 1), boot(), ack("a", 1)),
		"an error ahead of others":  plainRecord(queue("q", 3), boot()),
		"a message of another site": plainRecord(enter(message(2, 1, 0, "x", "", ""))),
		"a number that lacks":       plainRecord(exchange("x", api.Direct, false), published(2)),
	}
	for what, b := range wrong {
		for where, part := range map[string]string{"first": seals(b, good), "between": seals(good, b, good), "last": seals(good, good, b)} {
			if what == "an error ahead of others" && where == "first" {
				continue
			}
			s := laid(t, 10000, "log.1", part)
			before := read(t, s, "log.1")
			wantShut(t, what+", "+where, s, rare(), api.ErrDamage)
			wantSame(t, what+": the log", read(t, s, "log.1"), before)
		}
	}
	wantShut(t, "in a part but the last", laid(t, 10000, "log.1", seals(plainRecord(give("q"))), "log.2", seals(good)), rare(), api.ErrDamage)
	// act's Many writes it, and ReadMany reads it.
	s := laid(t, 10000, "log.1", seals([]byte{0, 0}, good, []byte{0, 0}))
	wantState(t, "records of no acts", opened(t, s, rare()).State(), behind(t, queue("q", 2), boot()))
}

func TestATornEndIsCutOff(t *testing.T) {
	whole := seals(plainRecord(queue("q", 2)))
	for n := range len(whole) {
		s := laid(t, 10000, "log.1", whole+whole[:n])
		v := opened(t, s, rare())
		wantState(t, fmt.Sprint(n, " bytes"), v.State(), behind(t, queue("q", 2), boot()))
		wantSame(t, fmt.Sprint(n, " bytes"), read(t, s, "log.1"), whole+seals(plainRecord(boot())))
	}
}

// TestActsOfRecordsCount: towards the next checkpoint, and the boot is one more.
func TestActsOfRecordsCount(t *testing.T) {
	records := seals(plainRecord(boots(2)...), plainRecord(boot()), []byte{0, 0}, plainRecord(boots(3)...))
	for keep := 1; keep <= 12; keep++ {
		s := laid(t, 10000, "log.1", records)
		v := opened(t, s, set(1<<20, keep))
		wantSame(t, fmt.Sprintf("Keep %d: is there a checkpoint", keep), slices.Contains(s.Names(), "check"), keep <= 7)
		wantState(t, "Open", v.State(), behind(t, boots(7)...))
		if keep <= 7 {
			wantSame(t, "the checkpoint", read(t, s, "check"), checkOf(2, still.Bytes(v.State())))
			wantSame(t, "the files", fmt.Sprint(s.Names()), "[check log.2]")
			// It begins anew.
			for n := 1; n < keep; n++ {
				does(t, v, boot())
				flushes(t, v)
				wantSame(t, "the files", fmt.Sprint(s.Names()), "[check log.2]")
			}
			does(t, v, boot())
			flushes(t, v)
			wantSame(t, "the files", fmt.Sprint(s.Names()), "[check log.3]")
			continue
		}
		for n := 8; n < keep; n++ {
			does(t, v, boot())
			flushes(t, v)
			wantSame(t, "the files", fmt.Sprint(s.Names()), "[log.1]")
		}
		does(t, v, boot())
		flushes(t, v)
		wantSame(t, "the files", fmt.Sprint(s.Names()), "[check log.2]")
	}
}

func TestOpenTellsTheErrorOfItsFlush(t *testing.T) {
	s := laid(t, 10000, "check", checkOf(999999999, nil))
	wantShut(t, "no part is left", s, set(64, 1), api.ErrOver)
	wantSame(t, "what was flushed", read(t, s, "log.999999999"), seals(plainRecord(boot())))
	for room := range 200 {
		pairs := newPair(t, fmt.Sprint("room ", room), room, 1, two(), set(64, 1))
		if err := pairs.open(); err != api.OK && err != api.ErrSpace || err == api.OK && room < 100 {
			t.Fatalf("room %d: %v", room, err)
		}
	}
}

func TestOpenFails(t *testing.T) {
	for keep := 1; keep <= 9; keep++ {
		for left := range 20 {
			for n := 1; ; n++ {
				s := laid(t, 10000, "log.1", seals(plainRecord(tables()...), plainRecord(published(1), give("q")))+"torn")
				wantErr(t, "Plan", s.Plan(n, left), api.OK)
				v, err := Open(s, 1, two(), set(64, keep))
				if s.On() {
					wantErr(t, "Open", err, api.OK)
					break
				}
				wantErr(t, "Open", err, api.ErrDark)
				wantSame(t, "is there one", v == nil, true)
				s.Power()
				v = opened(t, s, set(64, keep))
				p := v.State().Parts()
				wantSame(t, "Boots", p.Boots == 1 || p.Boots == 2, true)
				p.Boots = 1
				want := behind(t, append(tables(), published(1), give("q"), boot())...).Parts()
				wantSame(t, fmt.Sprintf("call %d of Open fails", n), fmt.Sprintf("%+v", p), fmt.Sprintf("%+v", want))
			}
		}
	}
}

func TestSegmentIsOfAPart(t *testing.T) {
	for _, segment := range []int{64, 65, 100, 1 << 20} {
		s := store.New(100000)
		v := opened(t, s, set(segment, 1000))
		bytes, last := len(seals(plainRecord(boot()))), 1
		for range 100 {
			does(t, v, boot())
			flushes(t, v)
			if bytes += len(seals(plainRecord(boot()))); bytes > segment {
				bytes, last = 0, last+1
			}
			wantSame(t, "the last part", len(s.Names()), last)
		}
	}
}

// P16.2: Do

func TestDoTellsTheQueuesOfTheLast(t *testing.T) {
	v := opened(t, store.New(10000), rare())
	wantSame(t, "of tables", len(does(t, v, tables()...)), 0)
	wantSame(t, "of one", fmt.Sprint(does(t, v, published(1))), "[q r]")
	wantSame(t, "the last one enters", fmt.Sprint(does(t, v, give("q"), published(2))), "[q r]")
	wantSame(t, "the last one does not", len(does(t, v, published(3), give("q"))), 0)
}

func TestDoOfOneThatIsNotTheLast(t *testing.T) {
	v := opened(t, store.New(10000), rare())
	does(t, v, exchange("d", api.Direct, false), queue("q", 5), queue("r", 5), binding("d", "q", "a"), binding("d", "r", "b"))
	a, b, c := enter(message(1, 1, 0, "d", "a", "")), enter(message(1, 2, 0, "d", "b", "")), enter(message(1, 3, 0, "d", "c", ""))
	wantSame(t, "r's", fmt.Sprint(does(t, v, a, b)), "[r]")
	wantSame(t, "nobody's", len(does(t, v, c)), 0)
	wantSame(t, "nobody's, behind q's", len(does(t, v, enter(message(1, 4, 0, "d", "a", "")), enter(message(1, 5, 0, "d", "c", "")))), 0)
}

func TestDoChangesTheState(t *testing.T) {
	s := store.New(10000)
	v := opened(t, s, rare())
	before := held(s)
	all := boots(1)
	for i, acts := range [][]api.Act{tables(), {published(1)}, {published(2), give("q")}, {back("q", 1), sent(2, 1)}, {boot()}, {give("r"), ack("r", 1)}} {
		does(t, v, acts...)
		all = append(all, acts...)
		wantState(t, fmt.Sprint("behind ", i), v.State(), behind(t, all...))
		wantSame(t, "Pending", v.Pending(), len(all)-1)
	}
	wantSame(t, "the store, ahead of Flush", held(s), before)
}

// refusals are acts with an error behind tables and a message, and the error.
func refusals() []struct {
	a    api.Act
	want api.Errno
} {
	return []struct {
		a    api.Act
		want api.Errno
	}{
		{api.Act{}, api.ErrInput},
		{queue("q", 0), api.ErrInput},
		{queue("Q", 1), api.ErrInput},
		{api.Act{Kind: api.ActBoot, N: 1}, api.ErrInput},
		{queue("q", 6), api.ErrKind},
		{api.Act{Kind: api.ActNoQueue, Name: "p"}, api.ErrMissing},
		{exchange("x", api.Topic, true), api.ErrKind},
		{api.Act{Kind: api.ActNoEx, Name: "y"}, api.ErrMissing},
		{binding("x", "p", ""), api.ErrMissing},
		{published(1), api.ErrStale},
		{published(3), api.ErrStale},
		{enter(message(1, 2, 0, "y", "", "")), api.ErrMissing},
		{enter(message(2, 1, 2, "x", "", "")), api.ErrInput},
		{give("p"), api.ErrMissing},
		{ack("q", 1), api.ErrStale},
		{sent(2, 2), api.ErrStale},
		{sent(1, 1), api.ErrMissing},
	}
}

func TestDoOfActsWithAnError(t *testing.T) {
	s := store.New(100000)
	v := opened(t, s, rare())
	does(t, v, append(tables(), published(1))...)
	want := behind(t, append(boots(1), append(tables(), published(1))...)...)
	for _, c := range refusals() {
		for what, acts := range map[string][]api.Act{
			"alone":         {c.a},
			"first":         {c.a, boot(), published(2)},
			"last":          {boot(), queue("new", 3), c.a},
			"between":       {give("r"), c.a, give("p")},
			"ahead of more": {c.a, {}, queue("q", 7), ack("r", 9)},
		} {
			told, err := v.Do(acts...)
			what = fmt.Sprintf("%s: %+v", what, acts)
			wantErr(t, what, err, c.want)
			wantSame(t, what, len(told), 0)
			wantState(t, what, v.State(), want)
			wantSame(t, what, v.Pending(), 6)
			wantSame(t, what, v.On(), true)
		}
	}
	flushes(t, v)
	wantSame(t, "the log", read(t, s, "log.1"), seals(plainRecord(boot()), plainRecord(append(tables(), published(1))...)))
}

func TestDoOfTheFirstError(t *testing.T) {
	v := opened(t, store.New(10000), rare())
	for i, c := range refusals() {
		for j := range i {
			other := refusals()[j]
			w := opened(t, store.New(10000), rare())
			does(t, w, append(tables(), published(1))...)
			_, err := w.Do(c.a, other.a)
			wantErr(t, fmt.Sprintf("%+v ahead of %+v", c.a, other.a), err, c.want)
			_, err = w.Do(boot(), other.a, boot(), c.a)
			wantErr(t, fmt.Sprintf("%+v ahead of %+v", other.a, c.a), err, other.want)
		}
	}
	// What one needs another one may have done ahead of it.
	_, err := v.Do(give("q"), queue("q", 1))
	wantErr(t, "a queue that is not there yet", err, api.ErrMissing)
	does(t, v, queue("q", 1), exchange("x", api.Fanout, false), binding("x", "q", ""), published(1), give("q"), ack("q", 1))
}

func TestDoOfNoActs(t *testing.T) {
	s := store.New(10000)
	v := opened(t, s, rare())
	does(t, v, queue("q", 5))
	for _, acts := range [][]api.Act{nil, {}} {
		told, err := v.Do(acts...)
		wantErr(t, "Do of none", err, api.ErrInput)
		wantSame(t, "Do of none", len(told), 0)
		wantSame(t, "Pending", v.Pending(), 1)
	}
	flushes(t, v)
	wantSame(t, "the log", read(t, s, "log.1"), seals(plainRecord(boot()), plainRecord(queue("q", 5))))
}

func TestDoOfTooManyActs(t *testing.T) {
	s := store.New(1 << 22)
	v := opened(t, s, rare())
	for _, n := range []int{60001, 60002, 65536, 70000} {
		told, err := v.Do(boots(n)...)
		wantErr(t, fmt.Sprint("Do of ", n), err, api.ErrLimit)
		wantSame(t, "told", len(told), 0)
		wantSame(t, "Pending", v.Pending(), 0)
		wantState(t, "too many", v.State(), behind(t, boot()))
		_, err = v.Do(append(boots(n), give("q"))...)
		wantErr(t, "an act with an error behind too many", err, api.ErrMissing)
	}
	does(t, v, boots(60000)...)
	wantSame(t, "Boots", v.State().Parts().Boots, 60001)
	flushes(t, v)
	wantSame(t, "Boots behind Open", opened(t, s, rare()).State().Parts().Boots, 60002)
}

// heavy is acts whose record has so many bytes: messages that enter no queue, the last ones with bodies that make it fit.
func heavy(t *testing.T, bytes int) []api.Act {
	t.Helper()
	l, left := []api.Act{exchange("x", api.Fanout, false)}, bytes
	left -= len(plainRecord(l...))
	one := len(plainRecord(published(1))) - 2 - 1 // without the record's count and a body
	for seq := uint64(1); left > 0; seq++ {
		n := min(api.MaxBody, left-one)
		// What is left must be none, or enough for another one.
		if rest := left - one - n; rest > 0 && rest < one {
			n -= one - rest
		}
		l = append(l, enter(message(1, seq, 0, "x", "k", strings.Repeat("b", n))))
		left -= one + n
	}
	if got := len(plainRecord(l...)); got != bytes {
		t.Fatalf("%d bytes, not %d", got, bytes)
	}
	return l
}

func TestDoOfTooManyBytes(t *testing.T) {
	const most = 1<<20 - 64
	s := store.New(1 << 22)
	v := opened(t, s, rare())
	for _, n := range []int{most + 1, most + 2, 1 << 20, 1 << 21} {
		told, err := v.Do(heavy(t, n)...)
		wantErr(t, fmt.Sprint("Do of bytes: ", n), err, api.ErrLimit)
		wantSame(t, "told", len(told), 0)
		wantSame(t, "Pending", v.Pending(), 0)
		wantState(t, "too many", v.State(), behind(t, boot()))
		_, err = v.Do(append(heavy(t, n), give("q"))...)
		wantErr(t, "an act with an error behind too many bytes", err, api.ErrMissing)
	}
	l := heavy(t, most)
	does(t, v, l...)
	flushes(t, v)
	wantState(t, "Open", opened(t, s, rare()).State(), behind(t, append(l, boots(2)...)...))
}

func TestAThousandDosWait(t *testing.T) {
	s := store.New(1 << 20)
	v := opened(t, s, rare())
	does(t, v, tables()...)
	for n := range 999 {
		wantSame(t, "Pending", v.Pending(), 5+2*n)
		does(t, v, boots(2)...)
	}
	all := slices.Concat(boots(1), tables(), boots(2*999))
	for range 3 {
		// It would enter queues, which are not told.
		told, err := v.Do(published(1))
		wantErr(t, "one more", err, api.ErrLimit)
		wantSame(t, "told", len(told), 0)
		wantState(t, "one more", v.State(), behind(t, all...))
		wantSame(t, "Pending", v.Pending(), 5+2*999)
		_, err = v.Do(give("q"))
		wantErr(t, "one more with an error", err, api.ErrStale)
		_, err = v.Do()
		wantErr(t, "none", err, api.ErrInput)
	}
	wantSame(t, "On", v.On(), true)
	flushes(t, v)
	wantSame(t, "told", fmt.Sprint(does(t, v, published(1))), "[q r]")
	flushes(t, v)
	wantState(t, "behind a thousand", opened(t, s, rare()).State(), behind(t, append(all, published(1), boot())...))
}

func TestDoIsOneRecord(t *testing.T) {
	s := store.New(10000)
	v := opened(t, s, rare())
	does(t, v, tables()...)
	does(t, v, published(1))
	does(t, v, published(2), give("q"))
	count := s.Count()
	flushes(t, v)
	wantSame(t, "calls of the store", s.Count()-count, 2)
	wantSame(t, "the log", read(t, s, "log.1"), seals(plainRecord(boot()), plainRecord(tables()...), plainRecord(published(1)), plainRecord(published(2), give("q"))))
}

// P16.2: Flush

func TestWhatIsNotFlushedIsNotThere(t *testing.T) {
	s := store.New(10000)
	v := opened(t, s, rare())
	does(t, v, queue("q", 5))
	flushes(t, v)
	does(t, v, queue("r", 5))
	wantState(t, "ahead of the failure", v.State(), behind(t, boot(), queue("q", 5), queue("r", 5)))
	cycle(s, math.MaxInt)
	wantState(t, "behind it", opened(t, s, rare()).State(), behind(t, boot(), queue("q", 5), boot()))
}

func TestFlushOfNothing(t *testing.T) {
	s := store.New(10000)
	v := opened(t, s, set(64, 2))
	before := held(s)
	for range 5 {
		flushes(t, v)
	}
	wantSame(t, "the store", held(s), before)
	does(t, v, boot())
	flushes(t, v)
	before = held(s)
	for range 5 {
		flushes(t, v)
	}
	wantSame(t, "the store behind a checkpoint", held(s), before)
}

// TestCheckpoints: they come by acts that are flushed, not by Dos and not by Flushes.
func TestCheckpoints(t *testing.T) {
	for keep := 2; keep <= 9; keep++ {
		for each := 1; each <= 4; each++ {
			for dos := 1; dos <= 3; dos++ {
				s := store.New(100000)
				v := opened(t, s, set(1<<20, keep))
				since, part, count := 1, uint64(1), 1
				for range 30 {
					for range dos {
						does(t, v, boots(each)...)
						wantSame(t, "the last part, ahead of Flush", s.Names()[len(s.Names())-1], ledger.Name(int(part)))
					}
					flushes(t, v)
					since, count = since+each*dos, count+each*dos
					if since >= keep {
						since, part = 0, part+1
						wantSame(t, "the checkpoint", read(t, s, "check"), checkOf(part, still.Bytes(behind(t, boots(count)...))))
						wantSame(t, "the log", read(t, s, ledger.Name(int(part))), "")
					}
					wantSame(t, "the last part", s.Names()[len(s.Names())-1], ledger.Name(int(part)))
					wantState(t, "State", v.State(), behind(t, boots(count)...))
				}
			}
		}
	}
}

// wantOff: the vault is no more, though it tells what it knew.
func wantOff(t *testing.T, what string, s *store.Store, v *Vault, pending int, st *state.State) {
	t.Helper()
	for range 3 {
		before := held(s)
		wantSame(t, what+": On", v.On(), false)
		told, err := v.Do(queue("later", 1))
		wantErr(t, what+": Do", err, api.ErrDark)
		wantSame(t, what+": told", len(told), 0)
		_, err = v.Do()
		wantErr(t, what+": Do of none", err, api.ErrDark)
		_, err = v.Do(api.Act{})
		wantErr(t, what+": Do of one that is not good", err, api.ErrDark)
		wantErr(t, what+": Flush", v.Flush(), api.ErrDark)
		wantSame(t, what+": Pending", v.Pending(), pending)
		wantState(t, what, v.State(), st)
		wantSame(t, what+": the store", held(s), before)
	}
}

func TestFlushWithoutRoom(t *testing.T) {
	s := store.New(200)
	v := opened(t, s, set(1<<20, 1000))
	does(t, v, tables()...)
	does(t, v, published(1))
	does(t, v, boots(30)...)
	before := held(s)
	st := v.State()
	wantErr(t, "Flush", v.Flush(), api.ErrSpace)
	wantSame(t, "the store", held(s), before)
	wantOff(t, "without room", s, v, 36, st)
	wantState(t, "opened anew", opened(t, s, set(1<<20, 1000)).State(), behind(t, boots(2)...))
}

func TestFlushFails(t *testing.T) {
	one := len(seals(plainRecord(queue("q", 1))))
	both := one + len(seals(plainRecord(queue("r", 1), queue("p", 1))))
	for _, c := range []struct {
		what          string
		n, keep, want int
	}{
		{"Write", 1, 0, 0}, {"Write, and all is kept", 1, math.MaxInt, 0},
		{"Sync", 2, 0, 0}, {"Sync, and less than a record is kept", 2, one - 1, 0}, {"Sync, and one record is kept", 2, one, 1},
		{"Sync, and less than both are kept", 2, both - 1, 1}, {"Sync, and both are kept", 2, both, 3}, {"Sync, and all is kept", 2, math.MaxInt, 3},
	} {
		s := store.New(10000)
		v := opened(t, s, rare())
		does(t, v, queue("q", 1))
		does(t, v, queue("r", 1), queue("p", 1))
		st := v.State()
		wantErr(t, "Plan", s.Plan(c.n, c.keep), api.OK)
		wantErr(t, c.what+": Flush", v.Flush(), api.ErrDark)
		wantOff(t, c.what, s, v, 3, st)
		s.Power()
		wantOff(t, c.what+", and power is back", s, v, 3, st)
		wantSame(t, c.what+": queues", len(opened(t, s, rare()).State().Parts().Queues), c.want)
	}
}

// TestMarkFails: what was flushed ahead of it is sure, and the vault is no more.
func TestMarkFails(t *testing.T) {
	for _, left := range []int{0, 7, math.MaxInt} {
		for n := 3; ; n++ {
			s := store.New(10000)
			v := opened(t, s, set(1<<20, 3))
			does(t, v, queue("q", 1), queue("r", 1))
			wantErr(t, "Plan", s.Plan(n, left), api.OK)
			err := v.Flush()
			if s.On() {
				wantErr(t, "Flush", err, api.OK)
				wantSame(t, "the first call that is none of its", n, 11)
				break
			}
			what := fmt.Sprintf("call %d fails", n)
			wantErr(t, what, err, api.ErrDark)
			wantOff(t, what, s, v, 0, behind(t, boot(), queue("q", 1), queue("r", 1)))
			s.Power()
			wantOff(t, what+", and power is back", s, v, 0, behind(t, boot(), queue("q", 1), queue("r", 1)))
			wantState(t, what, opened(t, s, set(1<<20, 3)).State(), behind(t, boot(), queue("q", 1), queue("r", 1), boot()))
		}
	}
}

func TestMarkWithoutRoom(t *testing.T) {
	refused := 0
	for room := 100; room < 400; room++ {
		s := store.New(room)
		v, err := Open(s, 1, two(), set(1<<20, 3))
		wantErr(t, "Open", err, api.OK)
		does(t, v, queue("q", 1), queue("r", 1))
		err = v.Flush()
		if err == api.OK {
			wantSame(t, "On", v.On(), true)
			continue
		}
		refused++
		wantErr(t, "Flush", err, api.ErrSpace)
		wantOff(t, fmt.Sprint("room ", room), s, v, 0, behind(t, boot(), queue("q", 1), queue("r", 1)))
		wantSame(t, "power", s.On(), true)
		log := seals(plainRecord(boot()), plainRecord(queue("q", 1), queue("r", 1)))
		wantSame(t, "what was flushed", read(t, s, "log.1"), log)
		wantState(t, "opened anew", opened(t, laid(t, 1000, "log.1", log), rare()).State(), behind(t, boot(), queue("q", 1), queue("r", 1), boot()))
	}
	if refused == 0 || refused == 300 {
		t.Errorf("%d rooms were too small", refused)
	}
}

func TestMarkOverTheLastNumber(t *testing.T) {
	s := laid(t, 10000, "check", checkOf(999999999, nil))
	v := opened(t, s, set(1<<20, 3))
	does(t, v, boot())
	flushes(t, v)
	does(t, v, queue("q", 1))
	wantErr(t, "Flush", v.Flush(), api.ErrOver)
	wantOff(t, "no part is left", s, v, 0, behind(t, boot(), boot(), queue("q", 1)))
	wantState(t, "opened anew", opened(t, s, rare()).State(), behind(t, boot(), boot(), queue("q", 1), boot()))
}

// great is acts that make a state of so many bytes behind a boot.
func great(t *testing.T, bytes int) []api.Act {
	t.Helper()
	l := []api.Act{exchange("x", api.Fanout, false)}
	for _, name := range []string{"a", "b", "c", "d", "e"} {
		l = append(l, queue(name, 1000), binding("x", name, ""))
	}
	size := len(still.Bytes(behind(t, append(boots(1), l...)...))) + 4 + 1 + 16 // what was seen is one range of one origin
	const each = 8 + 1 + 8 + 1 + 2 + 1 + 2 + 2 + 1
	// The last message but one is in all queues and as long as it may be; what is left is for the last one, in one queue.
	seq := uint64(1)
	for ; size+5*(each+api.MaxBody)+2*(each+api.MaxBody) < bytes; seq++ {
		l = append(l, enter(message(1, seq, 0, "x", "", strings.Repeat("b", api.MaxBody))))
		size += 5 * (each + api.MaxBody)
	}
	l = append(l, exchange("y", api.Fanout, false), binding("y", "a", ""))
	size = len(still.Bytes(behind(t, append(boots(1), l...)...)))
	for ; size < bytes; seq++ {
		n := min(api.MaxBody, bytes-size-each)
		if rest := bytes - size - each - n; rest > 0 && rest < each {
			n -= each - rest
		}
		l = append(l, enter(message(1, seq, 0, "y", "", strings.Repeat("b", n))))
		size = len(still.Bytes(behind(t, append(boots(1), l...)...)))
	}
	if size != bytes {
		t.Fatalf("%d bytes, not %d", size, bytes)
	}
	return l
}

func TestAStateThatIsTooGreatForACheckpoint(t *testing.T) {
	const most = 1<<20 - 64
	for _, c := range []struct {
		bytes int
		want  api.Errno
	}{{most, api.OK}, {most + 1, api.ErrLimit}} {
		l := great(t, c.bytes)
		s := store.New(1 << 25)
		v := opened(t, s, set(1<<20, len(l)+1))
		does(t, v, l...)
		wantErr(t, fmt.Sprint("Flush, bytes: ", c.bytes), v.Flush(), c.want)
		if c.want == api.OK {
			wantState(t, "Open", opened(t, s, rare()).State(), behind(t, append(append(boots(1), l...), boot())...))
			continue
		}
		wantOff(t, "too great", s, v, 0, behind(t, append(boots(1), l...)...))
		wantShut(t, "too great", s, set(1<<20, len(l)+1), api.ErrLimit)
		wantSame(t, "with fewer checkpoints", opened(t, s, rare()).State().Parts().Boots, 3)
	}
}

// P16.2: State, Pending, On

func TestStateIsACopy(t *testing.T) {
	v := opened(t, store.New(10000), rare())
	does(t, v, append(tables(), published(1))...)
	want := behind(t, append(boots(1), append(tables(), published(1))...)...)
	one, other := v.State(), v.State()
	one.Apply(give("q"))
	one.Apply(api.Act{Kind: api.ActNoQueue, Name: "r"})
	one.Apply(sent(2, 1))
	wantState(t, "the vault's", v.State(), want)
	wantState(t, "another one", other, want)
	does(t, v, give("r"))
	wantState(t, "what was told does not change", other, want)
}

func TestWithoutPower(t *testing.T) {
	s := store.New(10000)
	v := opened(t, s, rare())
	does(t, v, queue("q", 1))
	s.Fail(0)
	wantSame(t, "On", v.On(), false)
	for _, acts := range [][]api.Act{nil, {{}}, {give("nobody")}, {queue("r", 1)}, boots(60001)} {
		told, err := v.Do(acts...)
		wantErr(t, "Do", err, api.ErrDark)
		wantSame(t, "told", len(told), 0)
	}
	wantState(t, "without power", v.State(), behind(t, boot(), queue("q", 1)))
	wantSame(t, "Pending", v.Pending(), 1)
	// No Flush had an error so far, and nothing was lost that was sure: with power it runs.
	s.Power()
	wantSame(t, "On with power", v.On(), true)
	does(t, v, queue("r", 1))
	flushes(t, v)
	wantState(t, "opened anew", opened(t, s, rare()).State(), behind(t, boot(), queue("q", 1), queue("r", 1), boot()))
}

func TestFlushWithoutPower(t *testing.T) {
	for _, waits := range []int{0, 3} {
		s := store.New(10000)
		v := opened(t, s, rare())
		for range waits {
			does(t, v, boot())
		}
		s.Fail(0)
		wantErr(t, "Flush", v.Flush(), api.ErrDark)
		s.Power()
		wantOff(t, "power is back", s, v, waits, behind(t, boots(1+waits)...))
		wantSame(t, "Boots", opened(t, s, rare()).State().Parts().Boots, 2)
	}
}

func TestVaultsThatNoCallMade(t *testing.T) {
	l, _, _, err := ledger.Open(store.New(1000), 100)
	wantErr(t, "ledger's Open", err, api.OK)
	for what, v := range map[string]*Vault{"nil": nil, "zero": {}, "with a ledger": {Ledger: l}} {
		for _, acts := range [][]api.Act{nil, {{}}, {boot()}, boots(60001)} {
			told, err := v.Do(acts...)
			wantErr(t, what+": Do", err, api.ErrUnmade)
			wantSame(t, what+": told", len(told), 0)
		}
		wantErr(t, what+": Flush", v.Flush(), api.ErrUnmade)
		wantErr(t, what+": Flush again", v.Flush(), api.ErrUnmade)
		wantSame(t, what+": State", v.State() == nil, true)
		wantSame(t, what+": Pending", v.Pending(), 0)
		wantSame(t, what+": On", v.On(), false)
	}
	wantSame(t, "the ledger", l.Pending(), 0)
}

// The ledger's calls that the vault has none of its own for are promoted.
func TestTheLedgersCalls(t *testing.T) {
	s := store.New(10000)
	v := opened(t, s, set(64, 1000))
	for range 9 {
		does(t, v, boot())
		flushes(t, v)
	}
	wantSame(t, "Parts", fmt.Sprint(v.Parts()), "[1 2 3]")
	wantSame(t, "Parts of none", len((&Vault{}).Parts()), 0)
}

// P16.3

// life is what a vault must keep, told by what was answered alone.
type life struct {
	sure  []api.Act
	waits [][]api.Act // each Do
	// A call failed, so that a beginning of what waits may be there.
	fell bool
	// Boots may be one to the other more than those of sure.
	least, most uint64
}

// may: may Open tell this behind a failure? Then it is what is sure.
func (f *life) may(site int, w api.Topology, p state.Parts) bool {
	acts := slices.Clone(f.sure)
	for n := 0; ; n++ {
		s := state.New(site, w)
		for _, a := range append(slices.Clone(acts), boot()) {
			s.Apply(a)
		}
		want := s.Parts()
		least, most := want.Boots+f.least, want.Boots+f.most
		want.Boots = p.Boots
		if fmt.Sprintf("%+v", want) == fmt.Sprintf("%+v", p) && least <= p.Boots && p.Boots <= most {
			*f = life{sure: append(acts, boots(int(1+p.Boots-(least-f.least)))...)}
			return true
		}
		if !f.fell || n == len(f.waits) {
			return false
		}
		acts = append(acts, f.waits[n]...)
	}
}

// again opens a store, which must tell what it may; nil, if there is no room.
func (f *life) again(t *testing.T, what string, s *store.Store, site int, w api.Topology, x api.Settings) *Vault {
	t.Helper()
	v, err := Open(s, site, w, x)
	if err == api.ErrSpace {
		return nil
	}
	wantErr(t, what+": Open", err, api.OK)
	before, p := *f, v.State().Parts()
	if !f.may(site, w, p) {
		t.Fatalf("%s: told\n%+v\nsure were\n%+v\nwaiting\n%+v\nfailed %v, boots %d to %d", what, p, before.sure, before.waits, before.fell, before.least, before.most)
	}
	return v
}

func (f *life) do(v *Vault, acts ...api.Act) api.Errno {
	_, err := v.Do(acts...)
	if err == api.OK {
		f.waits = append(f.waits, acts)
	}
	return err
}

func (f *life) flush(v *Vault) api.Errno {
	err := v.Flush()
	if err == api.ErrDark {
		f.fell = true
	}
	if v.Pending() == 0 {
		f.sure = append(f.sure, slices.Concat(f.waits...)...)
		f.waits = nil
	}
	return err
}

// rows are Dos, and nil where it is flushed.
func rows() [][][]api.Act {
	return [][][]api.Act{
		{tables(), nil, {published(1)}, {published(2), give("q")}, nil, {ack("q", 1)}, {give("r"), give("q")}, nil},
		{tables(), {published(1)}, {published(2)}, {published(3)}, nil, {give("q"), give("q"), give("r")}, {back("q", 2)}, {ack("q", 1), sent(2, 2)}, nil, {sent(2, 1)}},
		{{queue("q", 1)}, nil, {queue("r", 1)}, nil, {boot()}, nil, {api.Act{Kind: api.ActNoQueue, Name: "q"}}, {queue("p", 2)}, nil},
	}
}

// TestEachFailure: a failure at each call of the store, of rows with more and fewer checkpoints and parts.
func TestEachFailure(t *testing.T) {
	for i, row := range rows() {
		for _, x := range []api.Settings{set(64, 1), set(64, 2), set(1<<20, 3), set(64, 7), set(64, 1000)} {
			for _, left := range []int{-1, 0, 1, 13, 14, 40, 80, math.MaxInt} {
				for n := 1; failsAt(t, fmt.Sprintf("row %d, %+v, call %d, keep %d", i, x, n, left), row, x, n, left); n++ {
				}
			}
		}
	}
}

// failsAt does a row with the n-th call of the store failing, and looks at what is left. Did one fail?
func failsAt(t *testing.T, what string, row [][]api.Act, x api.Settings, n, left int) bool {
	t.Helper()
	s := store.New(100000)
	v := opened(t, s, x)
	f := &life{sure: boots(1)}
	wantErr(t, "Plan", s.Plan(n, left), api.OK)
	for _, acts := range row {
		err := api.OK
		if acts == nil {
			err = f.flush(v)
		} else {
			err = f.do(v, acts...)
		}
		if err != api.OK {
			wantErr(t, what, err, api.ErrDark)
			break
		}
	}
	fell := !s.On()
	if !fell {
		s.Fail(left)
	}
	s.Power()
	v = f.again(t, what, s, 1, two(), x)
	first := v.State().Parts()
	cycle(s, left)
	v = f.again(t, what+", again", s, 1, two(), x)
	second := v.State().Parts()
	wantSame(t, what+": Boots", second.Boots, first.Boots+1)
	second.Boots = first.Boots
	wantSame(t, what+": opened twice", fmt.Sprintf("%+v", second), fmt.Sprintf("%+v", first))
	return fell
}

// someAct is any act, most of them good, of few names and numbers.
func someAct(r *rand.Rand, s *state.State, site int, w api.Topology) api.Act {
	pick := func(l ...string) string { return l[r.Intn(len(l))] }
	name := func() string { return pick("q", "q", "r", "p") }
	ex := func() string { return pick("x", "x", "x", "y") }
	key, body := pick("", "a", "a.b", "c"), strings.Repeat("b", r.Intn(30))
	q := name()
	tag := uint64(1)
	if p, _ := s.Queue(q); len(p.Out) > 0 {
		tag = p.Out[r.Intn(len(p.Out))].Tag
	}
	switch r.Intn(14) {
	case 0:
		return queue(q, 5)
	case 1:
		return exchange(ex(), api.Topic, true)
	case 2:
		return binding(ex(), q, pick("#", "a", "a.*"))
	case 3, 4, 5, 6:
		return enter(message(site, s.Parts().Seq+1, 0, ex(), key, body))
	case 7:
		return enter(message(1+r.Intn(w.Sites), uint64(1+r.Intn(30)), 1+r.Intn(2), ex(), key, body))
	case 8:
		return give(q)
	case 9:
		return ack(q, tag)
	case 10:
		return back(q, tag)
	case 11:
		return sent(1+r.Intn(w.Sites), 1+r.Intn(3))
	case 12:
		return []api.Act{boot(), {Kind: api.ActNoQueue, Name: q}, {Kind: api.ActNoEx, Name: ex()}, {Kind: api.ActUnbind, Binding: api.Binding{Exchange: "x", Queue: q, Pattern: "a"}}, {}}[r.Intn(5)]
	}
	return give(q)
}

// someActs is some that can be done one behind the other, as far as chance will have it.
func someActs(r *rand.Rand, now *state.State, site int, w api.Topology) []api.Act {
	var l []api.Act
	for count := r.Intn(30) + 3; len(l) < count/6; {
		a := someAct(r, now, site, w)
		// Most of those with an error are left out, as all would be refused with them.
		if _, err := now.Apply(a); err == api.OK || r.Intn(20) == 0 {
			l = append(l, a)
		}
	}
	return l
}

// someWorld is any topology, and a site of it.
func someWorld(r *rand.Rand) (api.Topology, int) {
	w := api.Topology{Sites: 1 + r.Intn(4), Hops: r.Intn(4)}
	for from := 1; from <= w.Sites; from++ {
		for to := 1; to <= w.Sites; to++ {
			if from != to && r.Intn(3) > 0 {
				w.Edges = append(w.Edges, api.Edge{From: from, To: to})
			}
		}
	}
	return w, 1 + r.Intn(w.Sites)
}

func someSettings(r *rand.Rand) api.Settings {
	return set([]int{64, 100, 300, 1 << 20}[r.Intn(4)], []int{1, 2, 5, 20, 1000}[r.Intn(5)])
}

// TestManyLives: many failures, one behind the other, also while it is opened, and with rooms that are too small.
func TestManyLives(t *testing.T) {
	r := rand.New(rand.NewSource(1))
	lives := 0
	for n := range 150 {
		w, site := someWorld(r)
		x := someSettings(r)
		s, f := store.New([]int{300, 1000, 3000, 100000, 100000}[r.Intn(5)]), &life{}
		for range 12 {
			what := fmt.Sprint("row ", n)
			if r.Intn(3) == 0 {
				s.Plan(1+r.Intn(12), r.Intn(40))
				if _, err := Open(s, site, w, x); err == api.OK {
					f.least++
				} else if err != api.ErrDark && err != api.ErrSpace {
					t.Fatalf("%s: Open: %v", what, err)
				}
				f.most++
				cycle(s, r.Intn(40))
			}
			v := f.again(t, what, s, site, w, x)
			if v == nil {
				break
			}
			lives++
			if r.Intn(4) > 0 {
				s.Plan(1+r.Intn(60), r.Intn(60)-2)
			}
			for range r.Intn(60) {
				if r.Intn(3) > 0 {
					f.do(v, someActs(r, v.State(), site, w)...)
				} else if f.flush(v) != api.OK {
					break
				}
			}
			if s.On() && r.Intn(4) == 0 {
				s.Power() // It is opened anew without a failure: nothing is planned any more.
				continue
			}
			cycle(s, r.Intn(60)-2)
		}
	}
	if lives < 800 {
		t.Errorf("only %d lives", lives)
	}
}

// All of it against the chapter's words, done plainly

func TestManyLongRows(t *testing.T) {
	r := rand.New(rand.NewSource(2))
	done, opens, errs := 0, 0, map[string]int{}
	for n := range 150 {
		w, site := someWorld(r)
		x := newPair(t, fmt.Sprint("row ", n), []int{200, 600, 2000, 100000}[r.Intn(4)], site, w, someSettings(r))
		for range 120 {
			if x.v == nil || r.Intn(25) == 0 || !x.v.On() && r.Intn(3) == 0 {
				x.both((*store.Store).Power)
				if r.Intn(8) == 0 {
					x.meddle(r)
				}
				err := x.open()
				opens++
				errs["Open "+err.Error()]++
				if err != api.OK && r.Intn(2) == 0 {
					x.s, x.ps = store.New(1000), store.New(1000)
				}
				continue
			}
			switch k := r.Intn(20); {
			case k == 0:
				n, left := 1+r.Intn(20), r.Intn(40)
				x.both(func(s *store.Store) { s.Plan(n, left) })
			case k == 1 && r.Intn(3) == 0:
				left := r.Intn(40)
				x.both(func(s *store.Store) { s.Fail(left) })
			case k == 2:
				x.both((*store.Store).Power)
			case k < 9:
				errs["Flush "+x.flush().Error()]++
			default:
				err := x.do(someActs(r, x.v.State(), site, w)...)
				errs["Do "+err.Error()]++
				if err == api.OK {
					done++
				}
			}
		}
	}
	for _, want := range []string{"Open ok", "Open damage", "Open space", "Flush ok", "Flush dark", "Flush space", "Do ok", "Do dark", "Do missing", "Do input", "Do stale"} {
		if errs[want] == 0 {
			t.Errorf("none of these rows had: %s", want)
		}
	}
	if done < 3000 || opens < 500 {
		t.Errorf("only %d Dos and %d opens: %v", done, opens, errs)
	}
}

func TestEachRoom(t *testing.T) {
	for _, s := range []api.Settings{set(64, 1), set(64, 3), set(1<<20, 5), set(64, 1000)} {
		for room := 0; room < 700; room++ {
			x := newPair(t, fmt.Sprintf("room %d, %+v", room, s), room, 1, two(), s)
			if x.open() != api.OK {
				continue
			}
			for _, acts := range rows()[room%3] {
				if acts == nil {
					x.flush()
				} else {
					x.do(acts...)
				}
			}
			x.flush()
			x.open()
		}
	}
}

// R3, R4

func TestWhatIsHandedInIsNotKeptOrChanged(t *testing.T) {
	s := store.New(10000)
	w := two()
	v, err := Open(s, 1, w, rare())
	wantErr(t, "Open", err, api.OK)
	w.Edges[0], w.Edges[1] = api.Edge{From: 2, To: 1}, api.Edge{}
	room := append(tables(), published(1), give("q"), queue("unasked", 3))
	acts := room[:6]
	told := does(t, v, acts...)
	want := append(tables(), published(1), give("q"), queue("unasked", 3))
	wantSame(t, "the acts", fmt.Sprint(room), fmt.Sprint(want))
	clear(room)
	told[0] = "other"
	_ = append(told[:1], "more")
	flushes(t, v)
	wantState(t, "State", v.State(), behind(t, append(boots(1), want[:6]...)...))
	wantSame(t, "the link", len(v.State().Link(2)), 1)
	wantState(t, "opened anew", opened(t, s, rare()).State(), behind(t, append(append(boots(1), want[:6]...), boot())...))
	wantSame(t, "told", fmt.Sprint(does(t, v, published(2))), "[q r]")
}

func TestVaultsAreApart(t *testing.T) {
	one, other := store.New(10000), store.New(10000)
	v, u := opened(t, one, set(64, 2)), opened(t, other, rare())
	does(t, v, queue("q", 1))
	does(t, u, queue("r", 1))
	flushes(t, v)
	one.Fail(0)
	wantSame(t, "On", v.On(), false)
	wantSame(t, "the other one", u.On(), true)
	flushes(t, u)
	wantState(t, "the other one", u.State(), behind(t, boot(), queue("r", 1)))
}

// TestAlwaysTheSame: the same calls leave the same bytes, whatever goes on beside them.
func TestAlwaysTheSame(t *testing.T) {
	play := func() string {
		r := rand.New(rand.NewSource(5))
		s := store.New(50000)
		v, _ := Open(s, 1, two(), set(100, 20))
		var all strings.Builder
		for range 150 {
			told, err := v.Do(someActs(r, v.State(), 1, two())...)
			fmt.Fprintln(&all, told, err, v.Pending(), v.On())
			if r.Intn(3) == 0 {
				fmt.Fprintln(&all, v.Flush())
			}
		}
		return all.String() + held(s)
	}
	want := play()
	got := make([]string, 8)
	var group sync.WaitGroup
	for i := range got {
		group.Go(func() { got[i] = play() })
	}
	group.Wait()
	for _, one := range got {
		wantSame(t, "played again", one, want)
	}
}
