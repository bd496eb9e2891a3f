package store

import (
	"fmt"
	"math"
	"regexp"
	"slices"
	"strings"
	"testing"

	"staith/api"
)

// What a name is, told anew.
var nameForm = regexp.MustCompile(`\A[a-z][a-z0-9.]{0,29}\z`)

// plain is a store told by the chapter's words: what it is held against. Files are numbers, each one of its own; a directory is a list of names and files, as they came.
type plain struct {
	room     int
	dark     bool
	count    int
	files    []plainFile
	now      []named
	sure     []named
	planned  bool
	ahead    int // calls ahead of the one that fails
	planKeep int
}

type plainFile struct{ bytes, sure string }

type named struct {
	name string
	file int
}

// place is where a name stands in the directory.
func (p *plain) place(name string) int {
	return slices.IndexFunc(p.now, func(n named) bool { return n.name == name })
}

func (p *plain) file(name string) *plainFile { return &p.files[p.now[p.place(name)].file] }

func (p *plain) need() int {
	sum := 0
	for _, n := range p.now {
		sum += 16 + len(p.files[n.file].bytes)
	}
	return sum
}

// without is the directory but for a name.
func (p *plain) without(name string) []named {
	var l []named
	for _, n := range p.now {
		if n.name != name {
			l = append(l, n)
		}
	}
	return l
}

func (p *plain) fail(keep int) {
	p.dark = true
	p.now = slices.Clone(p.sure)
	for _, n := range p.now {
		f := &p.files[n.file]
		left := f.sure
		if strings.HasPrefix(f.bytes, f.sure) {
			for _, b := range []byte(f.bytes[len(f.sure):]) {
				if len(left)-len(f.sure) < keep {
					left += string([]byte{b})
				}
			}
		}
		*f = plainFile{left, left}
	}
}

// call is one of a store's, with what it is given.
type call struct {
	kind string
	name string
	to   string // of Move
	b    string // of Write
	n    int    // of Cut and Plan
	keep int    // of Plan and Fail
}

// wrong is the error that a call has, by the chapter's order.
func (p *plain) wrong(c call) api.Errno {
	if p.dark {
		return api.ErrDark
	}
	if c.kind == "Plan" && c.n < 0 {
		return api.ErrInput
	}
	if c.kind == "Plan" || c.kind == "Commit" {
		return api.OK
	}
	if !nameForm.MatchString(c.name) || c.kind == "Move" && !nameForm.MatchString(c.to) {
		return api.ErrInput
	}
	if c.kind != "Make" && p.place(c.name) < 0 {
		return api.ErrMissing
	}
	switch {
	case c.kind == "Make" && p.place(c.name) >= 0:
		return api.ErrTaken
	case c.kind == "Make" && p.need()+16 > p.room:
		return api.ErrSpace
	case c.kind == "Write" && p.need()+len(c.b) > p.room:
		return api.ErrSpace
	case c.kind == "Cut" && (c.n < 0 || c.n > len(p.file(c.name).bytes)):
		return api.ErrInput
	}
	return api.OK
}

// call does what a call does, and tells its answer.
func (p *plain) call(c call) api.Errno {
	switch c.kind {
	case "Fail":
		p.fail(c.keep)
		return api.OK
	case "Power":
		p.dark, p.planned = false, false
		return api.OK
	}
	if err := p.wrong(c); err != api.OK {
		return err
	}
	if c.kind == "Plan" {
		p.planned, p.ahead, p.planKeep = c.n > 0, c.n-1, c.keep
		return api.OK
	}
	p.count++
	if p.planned && p.ahead == 0 {
		p.fail(p.planKeep)
		return api.ErrDark
	}
	p.ahead--
	p.change(c)
	return api.OK
}

// change is what a call that is counted does.
func (p *plain) change(c call) {
	switch c.kind {
	case "Make":
		p.files = append(p.files, plainFile{})
		p.now = append(p.now, named{c.name, len(p.files) - 1})
	case "Write":
		p.file(c.name).bytes += c.b
	case "Cut":
		p.file(c.name).bytes = p.file(c.name).bytes[:c.n]
	case "Sync":
		p.file(c.name).sure = p.file(c.name).bytes
	case "Move":
		if c.name != c.to {
			p.now = p.without(c.to)
			p.now[p.place(c.name)].name = c.to
		}
	case "Drop":
		p.now = p.without(c.name)
	case "Commit":
		p.sure = slices.Clone(p.now)
	}
}

// names are put in order one by one, by their bytes.
func (p *plain) names() []string {
	l := make([]string, len(p.now))
	for _, n := range p.now {
		at := 0
		for _, other := range p.now {
			if other.name < n.name {
				at++
			}
		}
		l[at] = n.name
	}
	return l
}

// ask does a call of a store, and tells its answer.
func ask(s *Store, c call) api.Errno {
	switch c.kind {
	case "Make":
		return s.Make(c.name)
	case "Write":
		return s.Write(c.name, []byte(c.b))
	case "Cut":
		return s.Cut(c.name, c.n)
	case "Sync":
		return s.Sync(c.name)
	case "Move":
		return s.Move(c.name, c.to)
	case "Drop":
		return s.Drop(c.name)
	case "Commit":
		return s.Commit()
	case "Plan":
		return s.Plan(c.n, c.keep)
	case "Fail":
		s.Fail(c.keep)
	case "Power":
		s.Power()
	}
	return api.OK
}

// do does calls of a store and of the plain one, which must answer the same.
func do(t *testing.T, s *Store, p *plain, row ...call) {
	t.Helper()
	for i, c := range row {
		if got, want := ask(s, c), p.call(c); got != want {
			t.Fatalf("%+v behind %+v: %v, want %v", c, row[:i], got, want)
		}
		if got, want := s.Count(), p.count; got != want {
			t.Fatalf("Count behind %+v: %d, want %d", row[:i+1], got, want)
		}
	}
}

// asked are names that are read of each store.
var asked = []string{"a", "b", "c", "d", "a.b", "zz", "", "A", "1a", ".", "a b", strings.Repeat("a", 31)}

// wantPlain holds all that a store tells against a plain one.
func wantPlain(t *testing.T, what string, s *Store, p *plain) {
	t.Helper()
	if s.On() == p.dark || s.Count() != p.count {
		t.Fatalf("%s: On %v, Count %d; want %v, %d", what, s.On(), s.Count(), !p.dark, p.count)
	}
	names, used := p.names(), p.need()
	if p.dark {
		names, used = nil, 0
	}
	if got := s.Names(); !slices.Equal(got, names) {
		t.Fatalf("%s: Names %v, want %v", what, got, names)
	}
	if got := s.Used(); got != used {
		t.Fatalf("%s: Used %d, want %d", what, got, used)
	}
	for _, name := range slices.Concat(p.names(), asked) {
		want, err := "", p.wrong(call{kind: "Read", name: name})
		if err == api.OK {
			want = p.file(name).bytes
		}
		if got, gotErr := s.Read(name); string(got) != want || gotErr != err {
			t.Fatalf("%s: Read(%q): %q %v, want %q %v", what, name, got, gotErr, want, err)
		}
	}
}

// both is a store and the plain one behind some calls.
func both(t *testing.T, room int, row ...call) (*Store, *plain) {
	t.Helper()
	s, p := New(room), &plain{room: room}
	do(t, s, p, row...)
	wantPlain(t, fmt.Sprintf("behind %+v", row), s, p)
	return s, p
}

// Short ways to write calls.

func mk(name string) call         { return call{kind: "Make", name: name} }
func write(name, b string) call   { return call{kind: "Write", name: name, b: b} }
func cut(name string, n int) call { return call{kind: "Cut", name: name, n: n} }
func sync(name string) call       { return call{kind: "Sync", name: name} }
func move(from, to string) call   { return call{kind: "Move", name: from, to: to} }
func drop(name string) call       { return call{kind: "Drop", name: name} }
func plan(n, keep int) call       { return call{kind: "Plan", n: n, keep: keep} }
func fail(keep int) call          { return call{kind: "Fail", keep: keep} }

var commit, power = call{kind: "Commit"}, call{kind: "Power"}

// kept are the calls that make a file, with these bytes, sure, and its name.
func kept(name, b string) []call { return []call{mk(name), write(name, b), sync(name), commit} }

// then is a row of calls with more behind it.
func then(row []call, more ...call) []call { return slices.Concat(row, more) }

// wantErr holds an error against what it must be.
func wantErr(t *testing.T, what string, got, want api.Errno) {
	t.Helper()
	if got != want {
		t.Errorf("%s: %v, want %v", what, got, want)
	}
}

// wantFiles holds names and their bytes, told as name=bytes, against what a store with power tells.
func wantFiles(t *testing.T, what string, s *Store, want ...string) {
	t.Helper()
	var got []string
	for _, name := range s.Names() {
		b, err := s.Read(name)
		wantErr(t, what+": Read of a name that is told", err, api.OK)
		got = append(got, name+"="+string(b))
	}
	if !slices.Equal(got, want) {
		t.Errorf("%s: %q, want %q", what, got, want)
	}
}

// wantBehind does calls of a new store, and the power is on again behind them; the plain store must have these files too.
func wantBehind(t *testing.T, row []call, want ...string) *Store {
	t.Helper()
	s, p := both(t, 1000, row...)
	do(t, s, p, power)
	what := fmt.Sprintf("behind %+v", row)
	wantPlain(t, what, s, p)
	wantFiles(t, what, s, want...)
	return s
}

// next is a number that looks as if by chance, the same at each run.
func next(seed *uint64) int {
	*seed = *seed*6364136223846793005 + 1442695040888963407
	return int(*seed >> 33)
}

func one[T any](seed *uint64, l []T) T { return l[next(seed)%len(l)] }

// ends are numbers at the ends of int, and some below 0.
var ends = []int{math.MinInt, math.MinInt + 1, -1 << 32, -16, -2, -1}

// P11.1: New and Good

func TestNew(t *testing.T) {
	for _, room := range []int{0, 1, 15, 16, 17, 100, 1<<30 - 1, 1 << 30} {
		s := New(room)
		if s == nil {
			t.Fatalf("New(%d): nil", room)
		}
		wantPlain(t, fmt.Sprintf("New(%d)", room), s, &plain{room: room})
		if other := New(room); other == s {
			t.Errorf("New(%d) told a store that was there", room)
		}
	}
	for _, room := range append([]int{1<<30 + 1, 1<<30 + 16, 1 << 31, 1 << 32, 1<<32 + 5, math.MaxInt - 1, math.MaxInt}, ends...) {
		if New(room) != nil {
			t.Errorf("New(%d): a store", room)
		}
	}
}

func TestStoresAreApart(t *testing.T) {
	a, p := both(t, 100, kept("a", "xy")...)
	b, q := both(t, 100, kept("b", "z")...)
	do(t, b, q, fail(0))
	wantPlain(t, "the other one failed", a, p)
	wantPlain(t, "the one that failed", b, q)
}

func TestGoodOfEachByte(t *testing.T) {
	for c := range 256 {
		b := string([]byte{byte(c)})
		small, other := c >= 'a' && c <= 'z', c >= '0' && c <= '9' || c == '.'
		for name, want := range map[string]bool{
			b: small, b + "a": small, b + "1": small, b + ".": small, b + strings.Repeat("a", 29): small, b + strings.Repeat("a", 30): false,
			"a" + b: small || other, "a" + b + "a": small || other, "ab" + b: small || other,
			strings.Repeat("z", 29) + b: small || other, strings.Repeat("z", 30) + b: false,
			"a" + b + strings.Repeat(".", 28): small || other, "A" + b: false, "0" + b: false, "." + b: false, " " + b: false,
		} {
			if Good(name) != want {
				t.Errorf("Good(%q): %v", name, !want)
			}
		}
	}
}

func TestGoodByLength(t *testing.T) {
	for n := range 70 {
		for _, b := range []string{"a", "z", "m"} {
			name := strings.Repeat(b, n)
			if Good(name) != (1 <= n && n <= 30) {
				t.Errorf("Good of %d bytes %s: %v", n, b, Good(name))
			}
		}
	}
	if Good("") || !Good("a") || !Good(strings.Repeat("a", 30)) || Good(strings.Repeat("a", 31)) || Good(strings.Repeat("a", 1<<20)) {
		t.Error("Good at 0, 1, 30, 31 or many bytes")
	}
}

func TestGoodOfTexts(t *testing.T) {
	for name, want := range map[string]bool{
		"log.1": true, "check": true, "check.new": true, "a.": true, "a..": true, "a1": true, "z9.0a": true,
		"1a": false, ".a": false, "a-b": false, "a_b": false, "a/b": false, "A": false, "aB": false, "a ": false, " a": false, "a\n": false, "\na": false,
		"\x00": false, "a\x00": false, "ä": false, "aä": false, "\xff": false, "a\xff": false, "a\xc3": false, "ａ": false, "aa\u0301": false,
	} {
		if Good(name) != want || nameForm.MatchString(name) != want {
			t.Errorf("Good(%q): %v", name, !want)
		}
	}
}

func TestNamesAtTheEdgesCanBeMade(t *testing.T) {
	long := strings.Repeat("q", 30)
	s, p := both(t, 1000, mk(long), mk("q"), mk(long+"q"), mk(""), mk("Q"), move("q", long+"q"), move("q", ""), commit, fail(0), power)
	wantPlain(t, "names at the edges", s, p)
	wantFiles(t, "names at the edges", s, "q=", long+"=")
}

// P11.1: the order of errors

// withName are the calls that need a file of that name, with all else of them right.
func withName(name string) []call {
	return []call{write(name, ""), cut(name, 0), sync(name), move(name, "c"), move(name, name), drop(name)}
}

// wantEach: each of these calls has this error, and changes nothing.
func wantEach(t *testing.T, s *Store, p *plain, want api.Errno, calls ...call) {
	t.Helper()
	for _, c := range calls {
		wantErr(t, fmt.Sprintf("%+v", c), ask(s, c), want)
		wantPlain(t, fmt.Sprintf("%+v has an error", c), s, p)
	}
}

func wantRead(t *testing.T, s *Store, name, want string, wantErr api.Errno) {
	t.Helper()
	if b, err := s.Read(name); string(b) != want || err != wantErr {
		t.Errorf("Read(%q): %q %v, want %q %v", name, b, err, want, wantErr)
	}
}

var (
	notGood = []string{"", "A", "1", ".", "a b", "ab\xff", "aB", "a\n", strings.Repeat("a", 31)}
	missing = []string{"b", "aa", "a.", strings.Repeat("a", 30)}
	tooMuch = strings.Repeat("x", 2000)
)

func TestNoPowerIsFirst(t *testing.T) {
	s, p := both(t, 18, then(kept("a", "xy"), fail(0))...)
	for _, name := range slices.Concat([]string{"a"}, missing, notGood) {
		wantEach(t, s, p, api.ErrDark, then(withName(name), mk(name), move("a", name), write(name, tooMuch))...)
		for _, n := range append([]int{2, 3, math.MaxInt}, ends...) {
			wantEach(t, s, p, api.ErrDark, cut(name, n), plan(n, n))
		}
		wantRead(t, s, name, "", api.ErrDark)
	}
	wantEach(t, s, p, api.ErrDark, commit, plan(0, 0), plan(1, 0))
	do(t, s, p, power)
	wantPlain(t, "power again", s, p)
}

func TestANameThatIsNotGood(t *testing.T) {
	for _, room := range []int{18, 1000} {
		s, p := both(t, room, kept("a", "xy")...)
		for _, name := range notGood {
			wantEach(t, s, p, api.ErrInput, then(withName(name), mk(name), move("a", name), move("b", name), write(name, tooMuch))...)
			for _, n := range append([]int{1, 3, math.MaxInt}, ends...) {
				wantEach(t, s, p, api.ErrInput, cut(name, n))
			}
			for _, other := range notGood {
				wantEach(t, s, p, api.ErrInput, move(name, other))
			}
			wantRead(t, s, name, "", api.ErrInput)
		}
	}
}

func TestAFileThatIsMissing(t *testing.T) {
	for _, room := range []int{18, 1000} {
		s, p := both(t, room, kept("a", "xy")...)
		for _, name := range missing {
			wantEach(t, s, p, api.ErrMissing, then(withName(name), move(name, "a"), write(name, "x"), write(name, tooMuch))...)
			for _, n := range append([]int{1, 3, math.MaxInt}, ends...) {
				wantEach(t, s, p, api.ErrMissing, cut(name, n))
			}
			wantRead(t, s, name, "", api.ErrMissing)
		}
	}
}

// P11.1: each call

func TestMakeOfANameThatIsTaken(t *testing.T) {
	for _, room := range []int{18, 33, 34, 1000} {
		s, p := both(t, room, mk("a"), write("a", "xy"))
		wantEach(t, s, p, api.ErrTaken, mk("a"), mk("a"))
	}
}

func TestMakeNeedsRoom(t *testing.T) {
	for room := range 40 {
		for count := range 20 {
			s, p := New(room), &plain{room: room}
			if room < 16 {
				wantEach(t, s, p, api.ErrSpace, mk("a"))
				continue
			}
			do(t, s, p, mk("a"))
			if 16+count > room {
				wantEach(t, s, p, api.ErrSpace, write("a", tooMuch[:count]))
				continue
			}
			do(t, s, p, write("a", tooMuch[:count]))
			want := api.OK
			if room-16-count < 16 {
				want = api.ErrSpace
			}
			wantErr(t, fmt.Sprintf("Make with %d left", room-16-count), s.Make("b"), want)
			p.call(mk("b"))
			wantPlain(t, "Make", s, p)
		}
	}
	s, p := both(t, 32, mk("a"), mk("b"))
	wantEach(t, s, p, api.ErrSpace, mk("c"), write("a", "x"))
	s, p = both(t, 31, mk("a"))
	wantEach(t, s, p, api.ErrSpace, mk("b"))
}

func TestWriteNeedsRoom(t *testing.T) {
	for _, row := range [][]call{
		{mk("a")}, {mk("a"), write("a", "abc")}, {mk("a"), mk("b"), write("b", "0123456789"), sync("b"), commit},
		{mk("a"), mk("b"), write("b", "0123456789"), cut("b", 4)}, {mk("a"), mk("b"), write("b", "012"), drop("b")},
	} {
		for room := 60; room < 64; room++ {
			s, p := both(t, room, row...)
			left := room - s.Used()
			wantEach(t, s, p, api.ErrSpace, write("a", tooMuch[:left+1]), write("a", tooMuch))
			do(t, s, p, write("a", ""), write("a", tooMuch[:left]))
			if s.Used() != room {
				t.Errorf("%d bytes of %d are used", s.Used(), room)
			}
			wantPlain(t, "full", s, p)
			wantEach(t, s, p, api.ErrSpace, write("a", "x"), mk("c"))
			do(t, s, p, write("a", ""), sync("a"), commit, cut("a", 1))
			wantPlain(t, "full", s, p)
		}
	}
}

func TestTheGreatestRoom(t *testing.T) {
	s, p := both(t, 1<<30, mk("a"), write("a", tooMuch))
	// It is refused by its length alone: nobody touches these bytes.
	wantErr(t, "one byte more than is left", s.Write("a", make([]byte, 1<<30-16-len(tooMuch)+1)), api.ErrSpace)
	wantPlain(t, "the greatest room", s, p)
}

func TestWriteOfNothing(t *testing.T) {
	s, p := both(t, 18, kept("a", "xy")...)
	for _, b := range [][]byte{nil, {}} {
		wantErr(t, "Write of nothing", s.Write("a", b), api.OK)
		p.call(write("a", ""))
		wantPlain(t, "Write of nothing", s, p)
	}
	if s.Count() != 6 {
		t.Errorf("Write of nothing is not counted: %d", s.Count())
	}
}

// TestMoreThanTheRoom: what comes back by a failure may need more than the room; then nothing fits, until enough is gone.
func TestMoreThanTheRoom(t *testing.T) {
	row := then(kept("a", "0123456789"), cut("a", 0), mk("b"), write("b", "01234567"), sync("b"), commit, fail(0), power)
	s, p := both(t, 40, row...)
	if s.Used() != 50 {
		t.Errorf("Used: %d, want 50", s.Used())
	}
	wantEach(t, s, p, api.ErrSpace, write("a", ""), write("a", "x"), mk("c"))
	do(t, s, p, sync("a"), commit, cut("a", 1), write("b", ""))
	wantEach(t, s, p, api.ErrSpace, mk("c"))
	wantFiles(t, "cut", s, "a=0", "b=01234567")
}

func TestCut(t *testing.T) {
	for _, row := range [][]call{{mk("a")}, {mk("a"), write("a", "abcd")}, kept("a", "abcd")} {
		_, begin := both(t, 100, row...)
		all := begin.file("a").bytes
		for _, n := range append([]int{0, 1, 2, 3, 4, 5, 6, 100, 1 << 32, math.MaxInt - 1, math.MaxInt}, ends...) {
			s, p := both(t, 100, row...)
			if n < 0 || n > len(all) {
				wantEach(t, s, p, api.ErrInput, cut("a", n))
				continue
			}
			do(t, s, p, cut("a", n))
			wantRead(t, s, "a", all[:n], api.OK)
			wantEach(t, s, p, api.ErrInput, cut("a", n+1))
			do(t, s, p, write("a", "xyz"), cut("a", n+3), cut("a", n+1), write("a", ""))
			wantRead(t, s, "a", all[:n]+"x", api.OK)
			wantPlain(t, "cut", s, p)
		}
	}
}

func TestCutBelowWhatWasSure(t *testing.T) {
	row := then(kept("a", "abcd"), write("a", "ef"), cut("a", 2))
	wantBehind(t, row, "a=ab")
	for keep := range 5 {
		wantBehind(t, then(row, fail(keep)), "a=abcd")
		wantBehind(t, then(row, write("a", "zzzzzz"), fail(keep)), "a=abcd")
		wantBehind(t, then(row, write("a", "cd"), fail(keep)), "a=abcd")
		wantBehind(t, then(row, write("a", "cdxyz"), fail(keep)), "a=abcd"+"xyz"[:min(keep, 3)])
		wantBehind(t, then(row, sync("a"), fail(keep)), "a=ab")
		wantBehind(t, then(row, sync("a"), write("a", "uv"), fail(keep)), "a=ab"+"uv"[:min(keep, 2)])
	}
}

func TestMove(t *testing.T) {
	two := then(kept("a", "xy"), mk("b"), write("b", "123"))
	wantBehind(t, then(two, move("a", "c")), "b=123", "c=xy")
	wantBehind(t, then(two, move("a", "b")), "b=xy")
	wantBehind(t, then(two, move("b", "a")), "a=123")
	wantBehind(t, then(two, move("a", "a")), "a=xy", "b=123")
	wantBehind(t, then(two, move("a", "c"), move("b", "a"), move("c", "b")), "a=123", "b=xy")
	wantBehind(t, then(two, move("a", "b"), mk("a"), write("a", "new"), write("b", "z")), "a=new", "b=xyz")
	s, p := both(t, 1000, two...)
	wantEach(t, s, p, api.ErrMissing, move("c", "a"), move("c", "d"), move("c", "c"))
	wantEach(t, s, p, api.ErrInput, move("a", ""), move("a", "A"), move("c", "A"), move("A", "a"))
}

func TestMoveToItselfIsNothingAndCounted(t *testing.T) {
	s, p := both(t, 18, kept("a", "xy")...)
	for i := range 3 {
		wantErr(t, "Move to itself", s.Move("a", "a"), api.OK)
		p.call(move("a", "a"))
		wantPlain(t, "Move to itself", s, p)
		if s.Count() != 5+i || s.Used() != 18 {
			t.Errorf("Count %d, Used %d", s.Count(), s.Used())
		}
	}
	do(t, s, p, plan(1, 0))
	wantErr(t, "Move to itself, planned", s.Move("a", "a"), api.ErrDark)
}

func TestTheRoomThatMoveAndDropLeave(t *testing.T) {
	full := then(kept("a", "0123456789"), mk("b"), write("b", "xy"))
	for _, c := range []struct {
		do   call
		used int
	}{
		{move("a", "b"), 26}, {move("b", "a"), 18}, {move("a", "c"), 44}, {move("a", "a"), 44}, {drop("a"), 18}, {drop("b"), 26},
	} {
		s, p := both(t, 44, full...)
		wantEach(t, s, p, api.ErrSpace, mk("d"), write("b", "x"))
		do(t, s, p, c.do)
		if s.Used() != c.used {
			t.Errorf("Used behind %+v: %d, want %d", c.do, s.Used(), c.used)
		}
		name := s.Names()[0]
		wantEach(t, s, p, api.ErrSpace, write(name, tooMuch[:44-c.used+1]))
		do(t, s, p, write(name, tooMuch[:44-c.used]))
		wantPlain(t, "full again", s, p)
	}
}

func TestDropAndMakeAgain(t *testing.T) {
	old := kept("a", "old")
	renewed := then(old, drop("a"), mk("a"))
	wantBehind(t, then(old, drop("a")))
	wantBehind(t, renewed, "a=")
	wantBehind(t, then(renewed, write("a", "new")), "a=new")
	wantBehind(t, then(renewed, write("a", "new"), sync("a"), fail(9)), "a=old")
	wantBehind(t, then(renewed, write("a", "new"), commit, fail(0)), "a=")
	wantBehind(t, then(renewed, write("a", "new"), commit, fail(2)), "a=ne")
	wantBehind(t, then(renewed, write("a", "new"), sync("a"), commit, fail(0)), "a=new")
	wantBehind(t, then(old, drop("a"), commit, mk("a"), write("a", "new"), sync("a"), fail(9)))
	wantBehind(t, then(old, drop("a"), commit, mk("a"), commit, write("a", "new"), sync("a"), fail(0)), "a=new")
	s, p := both(t, 1000, then(old, drop("a"))...)
	wantEach(t, s, p, api.ErrMissing, withName("a")...)
}

// P11.2

func TestWhatIsCounted(t *testing.T) {
	s := New(100)
	want := 0
	for _, c := range []call{
		mk("a"), write("a", "xyz"), write("a", ""), cut("a", 2), cut("a", 2), sync("a"), sync("a"), mk("b"), move("a", "c"), move("c", "c"), move("c", "b"),
		drop("b"), commit, commit,
	} {
		wantErr(t, c.kind, ask(s, c), api.OK)
		want++
		if s.Count() != want {
			t.Fatalf("Count behind %+v: %d, want %d", c, s.Count(), want)
		}
	}
}

func TestWhatIsNotCounted(t *testing.T) {
	s, p := both(t, 34, then(kept("a", "xy"), mk("b"))...)
	for range 3 {
		for _, c := range []call{
			mk("a"), mk("A"), mk("c"), write("a", "x"), write("c", "x"), write("", ""), cut("a", 3), cut("a", -1), cut("c", 0), sync("c"), sync("."),
			move("c", "a"), move("a", ""), drop("c"), drop("1"), plan(-1, 0), plan(0, 0), plan(5, 0), power,
		} {
			ask(s, c)
			s.Read("a")
			s.Read("c")
			s.Names()
			s.Used()
			s.On()
			if s.Count() != 5 {
				t.Fatalf("Count behind %+v: %d, want 5", c, s.Count())
			}
		}
	}
	wantPlain(t, "calls that are not counted", s, p)
	s.Fail(0)
	for _, c := range then(withName("a"), mk("a"), commit, plan(1, 1), fail(1), power) {
		if ask(s, c); s.Count() != 5 {
			t.Fatalf("Count behind %+v: %d, want 5", c, s.Count())
		}
	}
}

func TestRead(t *testing.T) {
	s, _ := both(t, 1000, mk("a"), write("a", "x\x00\xff"), write("a", "y"), mk("b"))
	wantRead(t, s, "a", "x\x00\xffy", api.OK)
	wantRead(t, s, "b", "", api.OK)
	wantRead(t, s, "c", "", api.ErrMissing)
	wantRead(t, s, "", "", api.ErrInput)
	if b, err := s.Read("c"); b != nil || err != api.ErrMissing {
		t.Errorf("Read of none: %v %v", b, err)
	}
}

func TestNamesByBytes(t *testing.T) {
	want := []string{"a", "a.", "a.1", "a.10", "a.2", "a0", "a9", "aa", "aaz", "ab", "b", "log.1", "log.10", "log.100", "log.2", "log.9", "z", "z.", "z9"}
	for seed := range uint64(40) {
		s, left := New(10000), slices.Clone(want)
		for len(left) > 0 {
			at := next(&seed) % len(left)
			s.Make(left[at])
			left = slices.Delete(left, at, at+1)
		}
		if got := s.Names(); !slices.Equal(got, want) {
			t.Fatalf("Names: %v", got)
		}
	}
}

func TestUsedBehindEachCall(t *testing.T) {
	s := New(1000)
	for _, c := range []struct {
		do   call
		used int
	}{
		{mk("a"), 16}, {write("a", "xyz"), 19}, {write("a", ""), 19}, {sync("a"), 19}, {commit, 19}, {mk("b"), 35}, {write("b", "0123456789"), 45},
		{cut("b", 4), 39}, {cut("b", 4), 39}, {move("a", "a"), 39}, {move("a", "c"), 39}, {mk("a"), 55}, {move("a", "b"), 35}, {write("c", "!"), 36},
		{drop("b"), 20}, {plan(9, 9), 20}, {mk("A"), 20}, {write("x", "y"), 20}, {cut("c", 5), 20}, {fail(0), 0}, {fail(3), 0}, {power, 19}, {drop("a"), 0},
		{fail(0), 0}, {power, 19}, {write("a", "12"), 21}, {fail(1), 0}, {power, 20}, {cut("a", 0), 16}, {fail(9), 0}, {power, 20},
	} {
		ask(s, c.do)
		if s.Used() != c.used {
			t.Fatalf("Used behind %+v: %d, want %d", c.do, s.Used(), c.used)
		}
	}
}

// P11.3: Fail

func TestExample(t *testing.T) {
	row := []call{mk("a"), write("a", "xy"), sync("a")}
	wantBehind(t, then(row, fail(0)))
	wantBehind(t, then(row, commit, fail(0)), "a=xy")
}

var keeps = append([]int{0, 1, 2, 3, 4, 5, 6, 100, 1 << 32, math.MaxInt - 1, math.MaxInt}, ends...)

// begins are the first keep bytes of a text, all if there are fewer.
func begins(text string, keep int) string { return text[:max(0, min(keep, len(text)))] }

func TestFailKeeps(t *testing.T) {
	for _, keep := range keeps {
		for what, c := range map[string]struct {
			row         []call
			sure, after string
		}{
			"empty":                             {[]call{mk("a"), commit}, "", ""},
			"never synced":                      {[]call{mk("a"), write("a", "abcd"), commit}, "", "abcd"},
			"never synced, written in parts":    {[]call{mk("a"), commit, write("a", "ab"), write("a", "c"), write("a", "d")}, "", "abcd"},
			"never synced and cut":              {[]call{mk("a"), commit, write("a", "abcd"), cut("a", 2)}, "", "ab"},
			"synced":                            {kept("a", "abcd"), "abcd", ""},
			"synced ahead of the write":         {[]call{mk("a"), sync("a"), write("a", "abcd"), commit}, "", "abcd"},
			"synced and written to":             {then(kept("a", "ab"), write("a", "cde")), "ab", "cde"},
			"synced behind the commit":          {[]call{mk("a"), commit, write("a", "ab"), sync("a"), write("a", "cd")}, "ab", "cd"},
			"synced twice":                      {then(kept("a", "ab"), write("a", "cd"), sync("a"), write("a", "e")), "abcd", "e"},
			"synced and cut":                    {then(kept("a", "abcd"), cut("a", 1)), "abcd", ""},
			"synced and cut to nothing":         {then(kept("a", "abcd"), cut("a", 0)), "abcd", ""},
			"cut behind what is sure":           {then(kept("a", "ab"), write("a", "cdef"), cut("a", 4)), "ab", "cd"},
			"cut to just what is sure":          {then(kept("a", "ab"), write("a", "cd"), cut("a", 2)), "ab", ""},
			"cut and written to alike":          {then(kept("a", "abcd"), cut("a", 1), write("a", "bcdxyz")), "abcd", "xyz"},
			"cut and written to just alike":     {then(kept("a", "abcd"), cut("a", 1), write("a", "bcd")), "abcd", ""},
			"cut to nothing, written to alike":  {then(kept("a", "abcd"), cut("a", 0), write("a", "ab"), write("a", "cdx")), "abcd", "x"},
			"cut and written to unlike":         {then(kept("a", "abcd"), cut("a", 1), write("a", "bcexyz")), "abcd", ""},
			"cut and written to, fewer":         {then(kept("a", "abcd"), cut("a", 1), write("a", "bc")), "abcd", ""},
			"cut to nothing, written to unlike": {then(kept("a", "abcd"), cut("a", 0), write("a", "bcdexyz")), "abcd", ""},
			"unlike, then alike":                {then(kept("a", "abcd"), cut("a", 3), write("a", "x"), cut("a", 3), write("a", "dyz")), "abcd", "yz"},
			"cut, then synced":                  {then(kept("a", "abcd"), cut("a", 1), sync("a"), write("a", "xy")), "a", "xy"},
			"dropped":                           {then(kept("a", "ab"), write("a", "cd"), drop("a")), "ab", "cd"},
			"moved":                             {then(kept("a", "ab"), move("a", "b"), write("b", "cd")), "ab", "cd"},
		} {
			s := wantBehind(t, then(c.row, fail(keep)), "a="+c.sure+begins(c.after, keep))
			if s.Used() != 16+len(c.sure)+len(begins(c.after, keep)) {
				t.Errorf("%s, keep %d: Used %d", what, keep, s.Used())
			}
		}
	}
}

func TestFailOfNames(t *testing.T) {
	ab := then(kept("a", "A"), kept("b", "B")...)
	for _, keep := range []int{-1, 0, 1, 9} {
		wantBehind(t, []call{mk("a"), write("a", "x"), sync("a"), fail(keep)})
		wantBehind(t, then(ab, mk("c"), write("c", "x"), sync("c"), fail(keep)), "a=A", "b=B")
		wantBehind(t, then(ab, drop("a"), fail(keep)), "a=A", "b=B")
		wantBehind(t, then(ab, drop("a"), commit, fail(keep)), "b=B")
		wantBehind(t, then(ab, drop("a"), drop("b"), fail(keep)), "a=A", "b=B")
		wantBehind(t, then(ab, move("a", "b"), fail(keep)), "a=A", "b=B")
		wantBehind(t, then(ab, move("a", "b"), commit, fail(keep)), "b=A")
		wantBehind(t, then(ab, move("a", "c"), fail(keep)), "a=A", "b=B")
		wantBehind(t, then(ab, move("a", "c"), commit, fail(keep)), "b=B", "c=A")
		wantBehind(t, then(ab, move("a", "c"), move("b", "a"), fail(keep)), "a=A", "b=B")
		wantBehind(t, then(ab, move("a", "c"), move("b", "a"), commit, move("c", "b"), fail(keep)), "a=B", "c=A")
		wantBehind(t, then(ab, drop("a"), mk("a"), write("a", "new"), sync("a"), fail(keep)), "a=A", "b=B")
	}
}

func TestFailOfOneFileWithTwoNames(t *testing.T) {
	begin := then(kept("a", "ab"), move("a", "b"))
	wantBehind(t, then(begin, write("b", "cd"), fail(1)), "a=abc")
	wantBehind(t, then(begin, write("b", "cd"), sync("b"), fail(0)), "a=abcd")
	wantBehind(t, then(begin, cut("b", 1), fail(9)), "a=ab")
	wantBehind(t, then(begin, cut("b", 1), sync("b"), fail(9)), "a=a")
	wantBehind(t, then(begin, mk("a"), write("a", "other"), sync("a"), write("b", "c"), sync("b"), fail(0)), "a=abc")
	wantBehind(t, then(begin, write("b", "cd"), drop("b"), fail(1)), "a=abc")
	wantBehind(t, then(begin, write("b", "cd"), sync("b"), fail(0), power, write("a", "e"), fail(0), power, write("a", "f"), sync("a"), fail(0)), "a=abcdf")
	wantBehind(t, then(begin, write("b", "cd"), fail(1), power, mk("b"), write("b", "z"), sync("b"), commit, fail(0)), "a=abc", "b=z")
}

func TestWhatIsLeftIsSure(t *testing.T) {
	rows := [][]call{
		{mk("a"), write("a", "abcd"), commit}, then(kept("a", "ab"), write("a", "cdef")), then(kept("a", "abcd"), cut("a", 2)),
		then(kept("a", "ab"), write("a", "cd"), move("a", "b"), mk("a"), write("a", "x")), then(kept("a", "ab"), mk("b"), commit, write("b", "uvw")),
	}
	for _, row := range rows {
		for _, keep := range keeps {
			s, p := both(t, 1000, then(row, fail(keep))...)
			for _, again := range keeps {
				do(t, s, p, fail(again), fail(again))
				wantPlain(t, "failed again at once", s, p)
				do(t, s, p, power)
				wantPlain(t, "power behind it", s, p)
			}
			before := s.Names()
			do(t, s, p, write("a", "more"), drop("a"), fail(0), power)
			wantPlain(t, "behind more", s, p)
			if !slices.Equal(s.Names(), before) {
				t.Errorf("Names that were sure: %v, want %v", s.Names(), before)
			}
		}
	}
}

func TestCommitKeepsTheDirectoryAsItWas(t *testing.T) {
	wantBehind(t, then(kept("a", "x"), mk("b"), drop("a"), mk("c"), fail(0)), "a=x")
	wantBehind(t, then(kept("a", "x"), fail(0), power, mk("b"), drop("a"), fail(0)), "a=x")
	wantBehind(t, then(kept("a", "x"), fail(0), power, mk("b"), commit, drop("b"), fail(0)), "a=x", "b=")
	wantBehind(t, then(kept("a", "x"), drop("a"), commit, mk("a"), fail(0), power, mk("b"), fail(0)))
}

func TestOn(t *testing.T) {
	s := New(100)
	for i, c := range []struct {
		do call
		on bool
	}{
		{mk("a"), true}, {power, true}, {fail(0), false}, {fail(0), false}, {mk("b"), false}, {power, true}, {power, true}, {plan(1, 0), true},
		{mk("A"), true}, {mk("a"), false}, {plan(0, 0), false}, {power, true}, {mk("a"), true},
	} {
		if ask(s, c.do); s.On() != c.on {
			t.Errorf("step %d, %+v: On %v", i, c.do, s.On())
		}
	}
}

// P11.3: Plan

// counted are calls that all are done, one behind the other, and among them what each store has behind so many of them and a failure that keeps nothing.
var counted = []struct {
	do   call
	left []string
}{
	{mk("a"), nil}, {write("a", "ab"), nil}, {sync("a"), nil}, {commit, nil}, {write("a", "cd"), []string{"a=ab"}}, {cut("a", 3), []string{"a=ab"}},
	{move("a", "b"), []string{"a=ab"}}, {sync("b"), []string{"a=ab"}}, {commit, []string{"a=abc"}}, {drop("b"), []string{"b=abc"}}, {commit, []string{"b=abc"}},
	{mk("z"), nil},
}

func TestPlanOfEachCall(t *testing.T) {
	for n := 1; n <= len(counted); n++ {
		s, p := both(t, 1000, plan(n, 0))
		for i, c := range counted[:n] {
			want := api.OK
			if i == n-1 {
				want = api.ErrDark
			}
			wantErr(t, fmt.Sprintf("call %d of a plan of %d", i+1, n), ask(s, c.do), want)
			if s.Count() != i+1 || s.On() != (want == api.OK) {
				t.Errorf("call %d of a plan of %d: Count %d, On %v", i+1, n, s.Count(), s.On())
			}
			p.call(c.do)
			wantPlain(t, "planned", s, p)
		}
		wantErr(t, "behind it", s.Commit(), api.ErrDark)
		s.Power()
		wantFiles(t, fmt.Sprintf("a plan of %d", n), s, counted[n-1].left...)
		for range 2 * len(counted) {
			wantErr(t, "nothing is planned any more", s.Commit(), api.OK)
		}
	}
}

func TestPlanKeeps(t *testing.T) {
	for _, keep := range keeps {
		for _, c := range []call{write("a", "xyz"), sync("a"), cut("a", 0), drop("a"), move("a", "b"), move("a", "a"), commit, mk("b")} {
			wantBehind(t, then(kept("a", "ab"), write("a", "cde"), plan(1, keep), c), "a=ab"+begins("cde", keep))
			wantBehind(t, then(kept("a", "ab"), write("a", "cde"), plan(3, keep), write("a", "f"), write("a", "g"), c), "a=ab"+begins("cdefg", keep))
		}
	}
}

func TestPlanOfNothing(t *testing.T) {
	s, p := both(t, 1000, plan(0, 5))
	for range 20 {
		do(t, s, p, commit)
	}
	do(t, s, p, plan(2, 0), commit, plan(0, 0))
	for range 20 {
		do(t, s, p, commit)
	}
	wantPlain(t, "a plan of 0", s, p)
	if s.Count() != 41 || !s.On() {
		t.Errorf("Count %d, On %v", s.Count(), s.On())
	}
}

func TestPlanBelowNothing(t *testing.T) {
	for _, n := range ends {
		for _, keep := range keeps {
			s, p := both(t, 1000, kept("a", "x")...)
			wantEach(t, s, p, api.ErrInput, plan(n, keep))
			do(t, s, p, commit, commit, plan(2, 0))
			wantEach(t, s, p, api.ErrInput, plan(n, keep))
			wantErr(t, "ahead of the planned call", s.Commit(), api.OK)
			wantErr(t, "the planned call, and another plan was refused", s.Commit(), api.ErrDark)
		}
	}
}

func TestPlanFarAway(t *testing.T) {
	for _, n := range []int{21, 1 << 32, math.MaxInt} {
		s, p := both(t, 1000, plan(n, math.MinInt))
		for range 20 {
			do(t, s, p, commit)
		}
		wantPlain(t, "far away", s, p)
	}
}

func TestOnePlanOverAnother(t *testing.T) {
	for first := range 4 {
		for between := range max(first, 1) {
			for second := range 5 {
				s, p := both(t, 1000, then(kept("a", "ab"), write("a", "cdef"), plan(first, 1))...)
				for range between {
					do(t, s, p, commit)
				}
				do(t, s, p, plan(second, 3))
				for i := 1; i < 8; i++ {
					want := api.OK
					if second > 0 && i >= second {
						want = api.ErrDark
					}
					wantErr(t, fmt.Sprintf("call %d of a plan of %d over one of %d", i, second, first), s.Commit(), want)
					p.call(commit)
				}
				wantPlain(t, "one plan over another", s, p)
				s.Power()
				if second > 0 {
					wantFiles(t, "one plan over another", s, "a=abcde")
				}
			}
		}
	}
}

func TestCallsWithAnErrorDoNotCountTowardsAPlan(t *testing.T) {
	s, p := both(t, 34, then(kept("a", "xy"), mk("b"), plan(2, 0))...)
	wrong := []call{mk("a"), mk("A"), mk("c"), write("a", "x"), write("c", ""), cut("a", 3), sync("c"), move("c", "a"), move("a", "A"), drop("c")}
	wantEachOf := func(what string) {
		t.Helper()
		for _, c := range wrong {
			if err := ask(s, c); err == api.OK || err == api.ErrDark || !s.On() {
				t.Fatalf("%s: %+v: %v, On %v", what, c, err, s.On())
			}
			s.Read("a")
			s.Read("c")
			s.Names()
			s.Used()
		}
		wantPlain(t, what, s, p)
	}
	wantEachOf("ahead of the first")
	do(t, s, p, commit)
	wantEachOf("ahead of the second")
	wantErr(t, "the second", s.Commit(), api.ErrDark)
	if s.Count() != 7 || s.On() {
		t.Errorf("Count %d, On %v", s.Count(), s.On())
	}
}

func TestPowerLeavesNothingPlanned(t *testing.T) {
	for _, row := range [][]call{{plan(1, 0), power}, {plan(3, 0), commit, power}, {plan(2, 0), fail(0), power}, {plan(1, 0), commit, power}, {plan(2, 0), power, fail(0), power}} {
		s, p := both(t, 1000, row...)
		for range 10 {
			do(t, s, p, commit)
		}
		wantPlain(t, "nothing planned", s, p)
	}
}

// P11.4

// story is what came of a file that was synced under a name that was committed: what is sure, all that came behind it, and what its name is now.
type story struct{ sure, more, now string }

// TestWhatWasSyncedAndCommittedLasts goes along many rows of calls that cut none of the files, and commit no name away, and looks at nothing but what was written.
func TestWhatWasSyncedAndCommittedLasts(t *testing.T) {
	names := []string{"a", "b", "c", "d", "e", "f"}
	for seed := range uint64(3000) {
		s, stories := New(1<<20), map[string]*story{}
		for i, name := range names[:3] {
			sure := tooMuch[:next(&seed)%5] + name
			for _, c := range []call{mk(name), write(name, sure), sync(name)} {
				wantErr(t, c.kind, ask(s, c), api.OK)
			}
			stories[name] = &story{sure: sure, now: names[i]}
		}
		wantErr(t, "Commit", s.Commit(), api.OK)
		for range next(&seed) % 15 {
			tell(s, stories, &seed, names)
		}
		if next(&seed)%3 == 0 {
			s.Plan(1, next(&seed)%6-1)
			s.Commit()
		}
		s.Fail(next(&seed)%6 - 1)
		s.Power()
		for name, f := range stories {
			b, err := s.Read(name)
			if err != api.OK || !strings.HasPrefix(string(b), f.sure) || !strings.HasPrefix(f.sure+f.more, string(b)) {
				t.Fatalf("seed %d: %s is %q %v, synced were %q, and behind them came %q", seed, name, b, err, f.sure, f.more)
			}
		}
		if len(s.Names()) != len(stories) {
			t.Fatalf("seed %d: Names %v", seed, s.Names())
		}
	}
}

// tell does one call by chance, and keeps the stories of the files: no Cut, and no Commit.
func tell(s *Store, stories map[string]*story, seed *uint64, names []string) {
	name, to := one(seed, names), one(seed, names)
	var file *story
	for _, f := range stories {
		if f.now == name {
			file = f
		}
	}
	switch next(seed) % 5 {
	case 0:
		s.Make(name)
	case 1:
		if b := tooMuch[:next(seed)%4] + to; s.Write(name, []byte(b)) == api.OK && file != nil {
			file.more += b
		}
	case 2:
		if s.Sync(name) == api.OK && file != nil {
			file.sure, file.more = file.sure+file.more, ""
		}
	case 3:
		if s.Move(name, to) == api.OK && name != to {
			for _, f := range stories {
				if f.now == to {
					f.now = ""
				}
			}
			if file != nil {
				file.now = to
			}
		}
	case 4:
		if s.Drop(name) == api.OK && file != nil {
			file.now = ""
		}
	}
}

// TestAFileMovedOverAnother: with a failure at each of its steps, a file is the elder one as long as the directory was not committed, then the newer one, whole.
func TestAFileMovedOverAnother(t *testing.T) {
	steps := []call{mk("new"), write("new", "12"), write("new", "345"), sync("new"), move("new", "a"), commit}
	for n := 1; n <= len(steps)+1; n++ {
		for _, keep := range keeps {
			for _, others := range [][]call{nil, {mk("b")}, {mk("b"), write("b", "x"), commit}, {mk("new"), move("new", "b")}} {
				s, _ := both(t, 1000, then(kept("a", "old"), others...)...)
				before := s.Names()
				s.Plan(n, keep)
				for i, c := range steps {
					want := api.OK
					if i+1 >= n {
						want = api.ErrDark
					}
					wantErr(t, c.kind, ask(s, c), want)
				}
				s.Fail(keep)
				s.Power()
				want := "old"
				if n > len(steps) {
					want = "12345"
				}
				wantRead(t, s, "a", want, api.OK)
				wantRead(t, s, "new", "", api.ErrMissing)
				if n <= len(steps) && len(s.Names()) > len(before) {
					t.Errorf("Names: %v, were %v", s.Names(), before)
				}
			}
		}
	}
}

// TestMovedNamesAreWhatWasCommitted: many rows of moves and drops, and what each name was when the directory was committed last.
func TestMovedNamesAreWhatWasCommitted(t *testing.T) {
	names := []string{"a", "b", "c", "d"}
	for seed := range uint64(2000) {
		s := New(1 << 20)
		for _, name := range names {
			for _, c := range []call{mk(name), write(name, "bytes of "+name), sync(name)} {
				wantErr(t, c.kind, ask(s, c), api.OK)
			}
		}
		var was []string
		for range 3 + next(&seed)%20 {
			switch from, to := one(&seed, names), one(&seed, names); next(&seed) % 6 {
			case 0:
				s.Drop(from)
			case 1:
				s.Commit()
				was = nil
				for _, name := range s.Names() {
					b, _ := s.Read(name)
					was = append(was, name+"="+string(b))
				}
			default:
				s.Move(from, to)
			}
		}
		s.Fail(0)
		s.Power()
		wantFiles(t, fmt.Sprintf("seed %d", seed), s, was...)
	}
}

// All of it against the plain reckoning

// everyRow calls each with each row of count calls.
func everyRow(calls, row []call, count int, each func(row []call)) {
	if len(row) == count {
		each(row)
		return
	}
	for _, c := range calls {
		everyRow(calls, append(row, c), count, each)
	}
}

func TestAllShortRowsOfCalls(t *testing.T) {
	calls := []call{
		mk("a"), mk("b"), write("a", "xy"), write("b", "x"), cut("a", 1), cut("a", 0), sync("a"), sync("b"), move("a", "b"), move("b", "a"), move("b", "b"),
		drop("a"), drop("b"), commit, plan(1, 1), plan(2, 0), fail(1), power,
	}
	for count := range 5 {
		everyRow(calls, nil, count, func(row []call) {
			s, p := New(35), &plain{room: 35}
			do(t, s, p, row...)
			wantPlain(t, fmt.Sprint("behind ", row), s, p)
			do(t, s, p, fail(1), power)
			wantPlain(t, fmt.Sprint("failed behind ", row), s, p)
		})
	}
}

func TestAllShortRowsBehindAFileThatIsSure(t *testing.T) {
	calls := []call{
		mk("a"), write("a", "y"), write("a", "xyx"), cut("a", 0), cut("a", 1), cut("a", 3), sync("a"), move("a", "b"), move("b", "a"), drop("a"), commit,
		plan(1, 2), fail(0), fail(1), power,
	}
	for count := range 5 {
		everyRow(calls, nil, count, func(row []call) {
			s, p := New(60), &plain{room: 60}
			do(t, s, p, kept("a", "xy")...)
			do(t, s, p, row...)
			wantPlain(t, fmt.Sprint("behind ", row), s, p)
			do(t, s, p, fail(2), power)
			wantPlain(t, fmt.Sprint("failed behind ", row), s, p)
		})
	}
}

// byChance is a call, mostly one that has no error.
func byChance(seed *uint64, p *plain) call {
	names := []string{"a", "b", "c", "d", "a.b", "zz"}
	name, to := one(seed, names), one(seed, names)
	if len(p.now) > 0 && next(seed)%3 > 0 {
		name = one(seed, p.now).name
	}
	if next(seed)%40 == 0 {
		name = one(seed, notGood)
	}
	if next(seed)%40 == 0 {
		to = one(seed, notGood)
	}
	n := next(seed)%12 - 1
	switch next(seed) % 24 {
	case 0, 1, 2, 3:
		return mk(name)
	case 4, 5, 6, 7:
		return write(name, "xyxyxxyyxy"[:next(seed)%10])
	case 8, 9:
		if at := p.place(name); at >= 0 && next(seed)%4 > 0 {
			n = next(seed) % (len(p.file(name).bytes) + 1)
		}
		return cut(name, n)
	case 10, 11, 12:
		return sync(name)
	case 13, 14, 15:
		return move(name, to)
	case 16, 17:
		return drop(name)
	case 18, 19, 20:
		return commit
	case 21:
		return plan(n, next(seed)%6-1)
	case 22:
		return one(seed, []call{fail(next(seed)%6 - 1), fail(math.MaxInt), fail(math.MinInt)})
	}
	return power
}

func TestManyLongRows(t *testing.T) {
	for seed := range uint64(60) {
		for _, room := range []int{40, 70, 120, 5000} {
			s, p := New(room), &plain{room: room}
			for range 700 {
				c := byChance(&seed, p)
				do(t, s, p, c)
				wantPlain(t, fmt.Sprintf("seed %d, %+v", seed, c), s, p)
				if p.dark && next(&seed)%2 == 0 {
					do(t, s, p, power)
				}
			}
		}
	}
}

// R3

// scribble writes over a list, and over the room behind its end.
func scribble[T any](l []T, with T) {
	l = l[:cap(l)]
	for i := range l {
		l[i] = with
	}
}

func TestWriteKeepsNothingAndChangesNothing(t *testing.T) {
	for _, beside := range [][]call{nil, {sync("a")}, {sync("a"), commit}, {cut("a", 1)}, {sync("a"), cut("a", 1), write("a", "zz")}, {commit, fail(1), power}} {
		s, p := both(t, 1000, mk("a"), commit)
		for range 4 {
			whole := []byte("abcdefgh")
			b := whole[2:5]
			wantErr(t, "Write", s.Write("a", b), api.OK)
			p.call(write("a", "cde"))
			do(t, s, p, beside...)
			if string(whole) != "abcdefgh" {
				t.Errorf("Write changed what it was given, or the room behind it: %q", whole)
			}
			scribble(whole, '!')
			wantPlain(t, "what was handed in was changed", s, p)
			do(t, s, p, write("a", "more"))
			if string(whole) != "!!!!!!!!" {
				t.Errorf("a later Write changed what the first was given: %q", whole)
			}
			wantPlain(t, "a later Write", s, p)
		}
		do(t, s, p, fail(2), power)
		wantPlain(t, "failed behind it", s, p)
	}
}

func TestReadIsNewMemory(t *testing.T) {
	for _, row := range [][]call{{mk("a")}, kept("a", "ab"), {mk("a"), write("a", "abcde"), commit}, then(kept("a", "abcd"), cut("a", 2)), then(kept("a", "abcd"), write("a", "e"), fail(1), power)} {
		s, p := both(t, 1000, row...)
		for range 3 {
			first, _ := s.Read("a")
			second, _ := s.Read("a")
			want := string(first)
			scribble(first, '!')
			if string(second) != want {
				t.Error("two answers of Read share memory")
			}
			wantPlain(t, "behind a scribble", s, p)
			whole := string(second[:cap(second)])
			do(t, s, p, write("a", "xyz"), sync("a"), cut("a", 1), write("a", "uvwxyz"), commit)
			if string(second[:cap(second)]) != whole {
				t.Error("what was read has changed")
			}
			scribble(second, '!')
			wantPlain(t, "behind a scribble", s, p)
		}
		do(t, s, p, fail(9), power)
		wantPlain(t, "failed behind it", s, p)
	}
}

func TestAWriteOfWhatWasRead(t *testing.T) {
	s, p := both(t, 1000, kept("a", "ab")...)
	for range 5 {
		b, _ := s.Read("a")
		wantErr(t, "Write", s.Write("a", b), api.OK)
		p.call(write("a", string(b)))
		scribble(b, '!')
		wantPlain(t, "a file written behind itself", s, p)
	}
}

func TestNamesAreNewMemory(t *testing.T) {
	s, p := both(t, 1000, mk("c"), mk("a"), mk("b"), commit)
	first, second := s.Names(), s.Names()
	scribble(first, "scribbled")
	if !slices.Equal(second, []string{"a", "b", "c"}) {
		t.Error("two answers of Names share memory")
	}
	wantPlain(t, "behind a scribble", s, p)
	whole := slices.Clone(second[:cap(second)])
	do(t, s, p, mk("d"), drop("a"), move("b", "e"), fail(0), power)
	if !slices.Equal(second[:cap(second)], whole) {
		t.Error("names that were told have changed")
	}
	wantPlain(t, "behind it", s, p)
}

// R4

func TestNothingHangsOnAMapsOrder(t *testing.T) {
	run := func() string {
		s, out, seed := New(3000), "", uint64(5)
		for i := range 60 {
			name := fmt.Sprintf("f%d", i*7%60)
			out += fmt.Sprint(s.Make(name), s.Write(name, []byte(tooMuch[:next(&seed)%9])))
			if i%3 == 0 {
				out += fmt.Sprint(s.Sync(name), s.Write(name, []byte("behind")))
			}
			if i%20 == 19 {
				out += fmt.Sprint(s.Commit())
			}
		}
		s.Plan(2, 3)
		out += fmt.Sprint(s.Move("f1", "f2"), s.Drop("f3"), s.On())
		s.Power()
		for _, name := range s.Names() {
			b, err := s.Read(name)
			out += fmt.Sprint(name, b, err)
		}
		return out + fmt.Sprint(s.Used(), s.Count())
	}
	want := run()
	for range 30 {
		if got := run(); got != want {
			t.Fatalf("the same calls, another answer:\n%s\n%s", got, want)
		}
	}
}

// R5

func TestUnmadeStores(t *testing.T) {
	for what, s := range map[string]*Store{"nil": nil, "the zero value": {}, "new's": new(Store), "New's of no room": New(-1)} {
		for range 2 {
			for _, name := range slices.Concat([]string{"a"}, missing, notGood) {
				for _, c := range then(withName(name), mk(name), write(name, tooMuch), cut(name, -1), cut(name, math.MaxInt), move("a", name)) {
					wantErr(t, fmt.Sprintf("%s: %+v", what, c), ask(s, c), api.ErrUnmade)
				}
				wantRead(t, s, name, "", api.ErrUnmade)
			}
			for _, n := range keeps {
				wantErr(t, what+": Plan", s.Plan(n, n), api.ErrUnmade)
				s.Fail(n)
				s.Power()
				wantErr(t, what+": Commit", s.Commit(), api.ErrUnmade)
				if s.On() || s.Count() != 0 || s.Used() != 0 || len(s.Names()) != 0 {
					t.Errorf("%s: On %v, Count %d, Used %d, Names %v", what, s.On(), s.Count(), s.Used(), s.Names())
				}
			}
		}
		if s != nil && fmt.Sprintf("%+v", *s) != fmt.Sprintf("%+v", Store{}) {
			t.Errorf("%s has changed: %+v", what, *s)
		}
	}
}
