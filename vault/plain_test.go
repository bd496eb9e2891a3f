package vault

import (
	"bytes"
	"encoding/binary"
	"fmt"
	"math/rand"
	"slices"
	"strings"
	"testing"

	"staith/act"
	"staith/api"
	"staith/ledger"
	"staith/state"
	"staith/still"
	"staith/store"
)

// The chapter's words done plainly: nothing is kept but acts, and each state is worked out from the first one of them on.

// plain is a vault. Its state is that of base, and of all acts since.
type plain struct {
	s    *store.Store
	site int
	w    api.Topology
	x    api.Settings
	log  *ledger.Ledger
	base []byte // of the checkpoint; of a new state without one
	acts []api.Act
	// The last ones of acts wait; so many are sure since the checkpoint.
	waits int
	since int
	off   bool
}

// plainGood is a row for each number: itself, the least and the greatest.
func plainGood(x api.Settings) bool {
	for _, row := range [][3]int{{x.Window, 1, 32}, {x.Timeout, 1, 1000}, {x.Segment, 64, 1048576}, {x.Keep, 1, 1000}} {
		if row[0] < row[1] || row[0] > row[2] {
			return false
		}
	}
	return true
}

// plainRecord is a record of acts: how many, and each with how many bytes it has.
func plainRecord(acts ...api.Act) []byte {
	b := binary.BigEndian.AppendUint16(nil, uint16(len(acts)))
	for _, a := range acts {
		one := act.Bytes(a)
		b = binary.BigEndian.AppendUint16(b, uint16(len(one)))
		b = append(b, one...)
	}
	return b
}

// after is the state behind acts, what the last one of them told, and the first error.
func (p *plain) after(acts []api.Act) (s *state.State, told []string, err api.Errno) {
	s, err = still.Read(p.base, p.site, p.w)
	for i := 0; i < len(acts) && err == api.OK; i++ {
		told, err = s.Apply(acts[i])
	}
	return s, told, err
}

func plainOpen(s *store.Store, site int, w api.Topology, x api.Settings) (*plain, api.Errno) {
	first := state.New(site, w)
	if first == nil || !plainGood(x) {
		return nil, api.ErrInput
	}
	log, check, records, err := ledger.Open(s, x.Segment)
	if err != api.OK {
		return nil, err
	}
	if len(check) == 0 {
		check = still.Bytes(first)
	}
	p := &plain{s: s, site: site, w: w, x: x, log: log, base: check}
	for _, b := range records {
		acts, err := act.ReadMany(b)
		if err != api.OK {
			return nil, api.ErrDamage
		}
		p.acts = append(p.acts, acts...)
	}
	p.since = len(p.acts)
	if _, _, err := p.after(p.acts); err != api.OK {
		return nil, api.ErrDamage
	}
	p.Do(boot())
	if err := p.Flush(); err != api.OK {
		return nil, err
	}
	return p, api.OK
}

func (p *plain) On() bool { return p != nil && !p.off && p.s.On() }

func (p *plain) Do(acts ...api.Act) ([]string, api.Errno) {
	if p == nil {
		return nil, api.ErrUnmade
	}
	if !p.On() {
		return nil, api.ErrDark
	}
	if len(acts) == 0 {
		return nil, api.ErrInput
	}
	all := slices.Concat(p.acts, acts)
	_, told, err := p.after(all)
	if err != api.OK {
		return nil, err
	}
	if len(acts) > 60000 {
		return nil, api.ErrLimit
	}
	if err := p.log.Add(plainRecord(acts...)); err != api.OK {
		return nil, err
	}
	p.acts, p.waits = all, p.waits+len(acts)
	return told, api.OK
}

func (p *plain) Flush() api.Errno {
	if p == nil {
		return api.ErrUnmade
	}
	if !p.On() {
		p.off = true
		return api.ErrDark
	}
	if err := p.log.Flush(); err != api.OK {
		p.off = true
		return err
	}
	p.since += p.waits
	p.waits = 0
	if p.since >= p.x.Keep {
		now, _, _ := p.after(p.acts)
		if err := p.log.Mark(still.Bytes(now)); err != api.OK {
			p.off = true
			return err
		}
		p.base, p.acts, p.since = still.Bytes(now), nil, 0
	}
	return api.OK
}

func (p *plain) State() *state.State {
	if p == nil {
		return nil
	}
	s, _, _ := p.after(p.acts)
	return s
}

func (p *plain) Pending() int {
	if p == nil {
		return 0
	}
	return p.waits
}

// pair is a vault and a plain one, each on a store of its own, with which the same is done.
type pair struct {
	t    *testing.T
	what string
	site int
	w    api.Topology
	x    api.Settings
	s    *store.Store
	v    *Vault
	ps   *store.Store
	p    *plain
}

func newPair(t *testing.T, what string, room, site int, w api.Topology, x api.Settings) *pair {
	return &pair{t: t, what: what, site: site, w: w, x: x, s: store.New(room), ps: store.New(room)}
}

// same holds the two against each other.
func (x *pair) same(what string, err, want api.Errno) {
	x.t.Helper()
	what = x.what + ": " + what
	wantErr(x.t, what, err, want)
	wantSame(x.t, what+": On", x.v.On(), x.p.On())
	wantSame(x.t, what+": Pending", x.v.Pending(), x.p.Pending())
	wantSame(x.t, what+": the store", held(x.s), held(x.ps))
	wantState(x.t, what, x.v.State(), x.p.State())
}

func (x *pair) open() api.Errno {
	x.t.Helper()
	var err, want api.Errno
	x.v, err = Open(x.s, x.site, x.w, x.x)
	x.p, want = plainOpen(x.ps, x.site, x.w, x.x)
	wantSame(x.t, x.what+": Open: is there one", x.v != nil, x.p != nil)
	x.same("Open", err, want)
	return err
}

func (x *pair) do(acts ...api.Act) api.Errno {
	x.t.Helper()
	told, err := x.v.Do(acts...)
	wanted, want := x.p.Do(acts...)
	wantSame(x.t, fmt.Sprintf("%s: queues of %+v", x.what, acts), strings.Join(told, " "), strings.Join(wanted, " "))
	x.same(fmt.Sprintf("Do(%+v)", acts), err, want)
	return err
}

func (x *pair) flush() api.Errno {
	x.t.Helper()
	err, want := x.v.Flush(), x.p.Flush()
	x.same("Flush", err, want)
	return err
}

// both does something with each store.
func (x *pair) both(do func(s *store.Store)) {
	do(x.s)
	do(x.ps)
}

// meddle lays something into the stores that no vault has written, or takes something away.
func (x *pair) meddle(r *rand.Rand) {
	names := x.s.Names()
	if len(names) == 0 {
		return
	}
	name, n := names[r.Intn(len(names))], r.Intn(40)
	record := [][]byte{nil, {0}, {0, 0}, plainRecord(boot()), plainRecord(give("nobody")), []byte("torn"), append(plainRecord(boot()), 0)}[r.Intn(7)]
	kind := r.Intn(5)
	x.both(func(s *store.Store) {
		switch kind {
		case 0:
			s.Drop(name)
		case 1:
			s.Cut(name, n)
		case 2:
			s.Write(name, []byte("torn")[:1+n%4])
		case 3:
			if l, _, _, err := ledger.Open(s, 100); err == api.OK {
				l.Add(record)
				l.Flush()
			}
		case 4:
			if l, _, _, err := ledger.Open(s, 100); err == api.OK {
				l.Mark(record)
			}
		}
	})
}

// wantState: two are the same in all their bytes, or none is there.
func wantState(t *testing.T, what string, got, want *state.State) {
	t.Helper()
	if (got == nil) != (want == nil) || !bytes.Equal(still.Bytes(got), still.Bytes(want)) {
		t.Fatalf("%s: the state is\n%+v\nwant\n%+v", what, got.Parts(), want.Parts())
	}
}
