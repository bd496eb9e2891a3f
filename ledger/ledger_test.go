package ledger

import (
	"encoding/binary"
	"fmt"
	"math"
	"regexp"
	"slices"
	"strconv"
	"strings"
	"testing"

	"staith/api"
	"staith/seal"
	"staith/store"
)

// What is written, told anew

// be is a number in so many bytes, the highest first.
func be(n uint64, width int) string {
	var b [8]byte
	binary.BigEndian.PutUint64(b[:], n)
	return string(b[8-width:])
}

// sealOf is a content between its count and its sum.
func sealOf(content string) string {
	counted := be(uint64(len(content)), 4) + content
	return counted + be(uint64(seal.Sum([]byte(counted))), 4)
}

func sealsOf(contents ...string) string {
	all := ""
	for _, c := range contents {
		all += sealOf(c)
	}
	return all
}

func checkOf(first uint64, check string) string { return sealOf(be(first, 8) + check) }

// plainSeals is what bytes begin with: contents, and what is left behind them.
func plainSeals(b string) (contents []string, rest string) {
	for len(b) >= 8 {
		count := uint64(binary.BigEndian.Uint32([]byte(b)))
		if count > 1<<20 || uint64(len(b)) < count+8 || sealOf(b[4:4+count]) != b[:count+8] {
			break
		}
		contents, b = append(contents, b[4:4+count]), b[count+8:]
	}
	return contents, b
}

var partForm = regexp.MustCompile(`\Alog\.([1-9][0-9]{0,8})\z`)

// plainParts are the numbers of a store's parts, put in order one by one.
func plainParts(s *store.Store) []int {
	var found []int
	for _, name := range s.Names() {
		if m := partForm.FindStringSubmatch(name); m != nil {
			n, _ := strconv.Atoi(m[1])
			at := 0
			for at < len(found) && found[at] < n {
				at++
			}
			found = slices.Insert(found, at, n)
		}
	}
	return found
}

// Short ways to ask

func wantErr(t *testing.T, what string, got, want api.Errno) {
	t.Helper()
	if got != want {
		t.Fatalf("%s: %v, want %v", what, got, want)
	}
}

// wantSame: nil and empty lists are the same.
func wantSame[T int | string | []int | []string](t *testing.T, what string, got, want T) {
	t.Helper()
	if a, b := shown(got), shown(want); a != b {
		t.Fatalf("%s: %s, want %s", what, a, b)
	}
}

func shown(v any) string {
	switch v.(type) {
	case string, []string:
		return fmt.Sprintf("%q", v)
	}
	return fmt.Sprint(v)
}

func texts(l [][]byte) []string {
	var out []string
	for _, b := range l {
		out = append(out, string(b))
	}
	return out
}

// held is all that a store tells of its files, as name=bytes.
func held(s *store.Store) []string {
	var out []string
	for _, name := range s.Names() {
		b, _ := s.Read(name)
		out = append(out, name+"="+string(b))
	}
	return out
}

// told is all that a store tells.
func told(s *store.Store) string {
	return fmt.Sprintf("%q, Used %d, Count %d, On %v", held(s), s.Used(), s.Count(), s.On())
}

// laid is a store with files, told as name and bytes, all of it sure.
func laid(t *testing.T, room int, files ...string) *store.Store {
	t.Helper()
	s := store.New(room)
	for i := 0; i < len(files); i += 2 {
		wantErr(t, "Make "+files[i], s.Make(files[i]), api.OK)
		wantErr(t, "Write "+files[i], s.Write(files[i], []byte(files[i+1])), api.OK)
		wantErr(t, "Sync "+files[i], s.Sync(files[i]), api.OK)
	}
	wantErr(t, "Commit", s.Commit(), api.OK)
	return s
}

// begun is the ledger of a store that must open.
func begun(t *testing.T, s *store.Store, part int) *Ledger {
	t.Helper()
	l, _, _, err := Open(s, part)
	wantErr(t, "Open", err, api.OK)
	if l == nil {
		t.Fatal("Open: OK, and no Ledger")
	}
	return l
}

// wantOpen: a store must open, and tell this.
func wantOpen(t *testing.T, what string, s *store.Store, part int, check string, records ...string) *Ledger {
	t.Helper()
	l, c, rs, err := Open(s, part)
	wantErr(t, what+": Open", err, api.OK)
	wantSame(t, what+": checkpoint", string(c), check)
	wantSame(t, what+": records", texts(rs), records)
	return l
}

// wantShut: Open must have this error, tell nothing, and change nothing.
func wantShut(t *testing.T, what string, s *store.Store, part int, want api.Errno) {
	t.Helper()
	before := told(s)
	l, c, rs, err := Open(s, part)
	wantErr(t, what+": Open", err, want)
	if l != nil || len(c) != 0 || len(rs) != 0 {
		t.Fatalf("%s: beside an error Open tells %v %q %q", what, l, c, rs)
	}
	wantSame(t, what+": the store", told(s), before)
}

func adds(t *testing.T, l *Ledger, records ...string) {
	t.Helper()
	for _, r := range records {
		wantErr(t, "Add", l.Add([]byte(r)), api.OK)
	}
}

func flushed(t *testing.T, l *Ledger, records ...string) {
	t.Helper()
	adds(t, l, records...)
	wantErr(t, "Flush", l.Flush(), api.OK)
}

func marked(t *testing.T, l *Ledger, check string) {
	t.Helper()
	wantErr(t, "Mark", l.Mark([]byte(check)), api.OK)
}

// next is a number that looks as if by chance, the same at each run.
func next(seed *uint64) int {
	*seed = *seed*6364136223846793005 + 1442695040888963407
	return int(*seed >> 33)
}

func one[T any](seed *uint64, l []T) T { return l[next(seed)%len(l)] }

const (
	limit = 1<<20 - 64 // bytes of a record, and of a checkpoint
	last  = 999999999  // the greatest number of a part
)

var keeps = []int{math.MinInt, -1, 0, 1, 4, 8, 9, 13, 20, math.MaxInt}

// The example of the chapter

func TestTheExample(t *testing.T) {
	s := store.New(10000)
	l := wantOpen(t, "new", s, 100, "")
	flushed(t, l, "a", "b")
	marked(t, l, "c")
	flushed(t, l, "d")
	wantOpen(t, "at once", s, 100, "c", "d")
	s.Fail(0)
	s.Power()
	wantOpen(t, "behind a failure", s, 100, "c", "d")
}

// P12.1

func TestName(t *testing.T) {
	for n, want := range map[int]string{
		1: "log.1", 2: "log.2", 9: "log.9", 10: "log.10", 100: "log.100", 123456789: "log.123456789", last - 1: "log.999999998", last: "log.999999999",
		0: "", -1: "", -9: "", last + 1: "", last + 2: "", 1 << 31: "", 1 << 32: "", 1<<32 + 1: "", math.MaxInt: "", math.MinInt: "", math.MinInt + 1: "",
	} {
		wantSame(t, fmt.Sprintf("Name(%d)", n), Name(n), want)
	}
	for n := 1; n <= last; n = n*3 + 1 {
		if !store.Good(Name(n)) || !partForm.MatchString(Name(n)) {
			t.Errorf("Name(%d): %q", n, Name(n))
		}
	}
}

// noParts are names that look like those of parts.
var noParts = []string{
	"log.", "log", "log.0", "log.01", "log.001", "log.00", "log.1000000000", "log.9999999999", "log.18446744073709551617", "log.1a", "log.a1", "log.x", "log..1", "log.1.",
	"log.1.2", "logs.1", "log1", "alog.1", "l.1", "check.1", "check.", "check.new.1", "checks", "lo.g1", "log.0x1", "log.1e1", "a", "log.4294967297",
}

func TestOnlyNamesOfPartsAreParts(t *testing.T) {
	var files []string
	for _, name := range noParts {
		files = append(files, name, "bytes that are none")
	}
	s := laid(t, 1<<20, files...)
	l := wantOpen(t, "no part", s, 100, "")
	wantSame(t, "Parts", l.Parts(), []int{1})
	flushed(t, l, "a")
	marked(t, l, "c")
	wantSame(t, "Parts", l.Parts(), []int{2})
	for _, name := range noParts {
		b, err := s.Read(name)
		wantErr(t, name, err, api.OK)
		wantSame(t, name, string(b), "bytes that are none")
	}
	wantOpen(t, "behind Mark", s, 100, "c")
}

func TestTheCheckpointsBytes(t *testing.T) {
	for _, check := range []string{"", "c", "\x00", strings.Repeat("long", 100)} {
		s := store.New(1 << 20)
		l := begun(t, s, 100)
		flushed(t, l, "a")
		marked(t, l, check)
		wantSame(t, "the files", held(s), []string{"check=" + checkOf(2, check), "log.2="})
	}
	// Each byte of one of them.
	s := store.New(1 << 20)
	marked(t, begun(t, s, 100), "c")
	b, _ := s.Read("check")
	wantSame(t, "the head", string(b[:13]), "\x00\x00\x00\x09\x00\x00\x00\x00\x00\x00\x00\x02c")
	wantSame(t, "its length", len(b), 17)
}

func TestCheckpointsOfManyFirstParts(t *testing.T) {
	for _, first := range []uint64{1, 2, 9, 10, 255, 256, 65536, 1 << 24, 123456789, last - 1, last} {
		for _, check := range []string{"", "bytes"} {
			s := laid(t, 10000, "check", checkOf(first, check))
			l := wantOpen(t, "no part yet", s, 100, check)
			wantSame(t, "Parts", l.Parts(), []int{int(first)})
			flushed(t, l, "r")
			wantSame(t, "the files", held(s), []string{"check=" + checkOf(first, check), Name(int(first)) + "=" + sealOf("r")})
			wantOpen(t, "again", s, 100, check, "r")
		}
	}
}

// P12.2: the order of errors

func TestOpenOfStoresThatNoCallMade(t *testing.T) {
	for what, s := range map[string]*store.Store{"nil": nil, "the zero value": {}, "New's of no room": store.New(-1)} {
		for _, part := range []int{1, 100, 0, -1, 1<<20 + 1, math.MinInt, math.MaxInt} {
			wantShut(t, what, s, part, api.ErrUnmade)
		}
	}
}

func TestOpenWithoutPower(t *testing.T) {
	for _, files := range [][]string{nil, {"log.1", sealOf("a")}, {"check", "damage"}, {"log.2", "damage"}, {"check", checkOf(1, "c"), "log.1", ""}} {
		s := laid(t, 1000, files...)
		s.Fail(0)
		for _, part := range []int{1, 1 << 20, 0, -1, 1<<20 + 1, math.MinInt, math.MaxInt} {
			wantShut(t, "no power", s, part, api.ErrDark)
		}
	}
}

func TestOpenWithAPartThatMayNotBe(t *testing.T) {
	for _, files := range [][]string{nil, {"log.1", sealOf("a")}, {"log.1", sealOf("a") + "torn"}, {"check", "damage"}, {"log.2", "damage"}, {"check", checkOf(1, "c"), "log.1", ""}} {
		s := laid(t, 1000, files...)
		for _, part := range []int{0, -1, -100, 1<<20 + 1, 1 << 21, 1<<32 + 1, math.MinInt, math.MaxInt} {
			wantShut(t, fmt.Sprint("part ", part), s, part, api.ErrInput)
		}
	}
	for _, part := range []int{1, 2, 64, 1<<20 - 1, 1 << 20} {
		wantOpen(t, fmt.Sprint("part ", part), laid(t, 1000, "log.1", sealOf("a")), part, "", "a")
	}
}

// P12.2: the checkpoint

func TestADamagedCheckpoint(t *testing.T) {
	whole := checkOf(1, "check")
	damaged := []string{
		"", "c", whole + "x", whole + whole, whole + "\x00", "x" + whole, whole[1:], sealOf(""), sealOf("1234567"), sealOf(be(1, 4)), be(1, 8) + "check", strings.Repeat("\x00", 8), strings.Repeat("\xff", 40),
		checkOf(0, ""), checkOf(0, "check"), checkOf(last+1, ""), checkOf(last+1, "check"), checkOf(1<<32, "c"), checkOf(1<<32+1, "c"), checkOf(1<<63, "c"), checkOf(1<<63+1, "c"), checkOf(math.MaxUint64, "c"),
	}
	for n := range whole {
		damaged = append(damaged, whole[:n])
		for bit := range 8 {
			b := []byte(whole)
			b[n] ^= 1 << bit
			damaged = append(damaged, string(b))
		}
	}
	for _, b := range damaged {
		for _, parts := range [][]string{nil, {"log.1", sealOf("a")}, {"log.1", "", "log.2", sealOf("a") + "torn"}, {"log.2", ""}} {
			wantShut(t, fmt.Sprintf("check is %q", b), laid(t, 1000, slices.Concat([]string{"check", b}, parts)...), 100, api.ErrDamage)
		}
	}
	wantOpen(t, "one that is whole", laid(t, 1000, "check", whole), 100, "check")
}

func TestAFreshCheckpointDoesNotCount(t *testing.T) {
	for _, b := range []string{"", "damage", checkOf(1, "new"), checkOf(3, "new"), checkOf(last, "")} {
		s := laid(t, 1000, "check.new", b, "log.1", sealOf("a"))
		wantOpen(t, "no checkpoint", s, 100, "", "a")
		wantSame(t, "the files", held(s), []string{"check.new=" + b, "log.1=" + sealOf("a")})
		s = laid(t, 1000, "check", checkOf(2, "old"), "check.new", b, "log.2", sealOf("b"))
		wantOpen(t, "an elder one", s, 100, "old", "b")
	}
}

// P12.2: the parts

func TestOpenReadsPartsByNumbers(t *testing.T) {
	var files, want []string
	for n := 1; n <= 120; n++ {
		r := fmt.Sprint("record ", n)
		files, want = append(files, Name(n), sealsOf(r, "", r+"again")), append(want, r, "", r+"again")
	}
	s := laid(t, 1<<20, files...)
	l := wantOpen(t, "many", s, 100, "", want...)
	for i, n := range l.Parts() {
		wantSame(t, "Parts", n, i+1)
	}
	// From the first on.
	for _, first := range []int{1, 2, 9, 10, 11, 99, 100, 119, 120} {
		s := laid(t, 1<<20, slices.Concat(files, []string{"check", checkOf(uint64(first), "c")})...)
		l := wantOpen(t, fmt.Sprint("first ", first), s, 100, "c", want[3*(first-1):]...)
		wantSame(t, "Parts", len(l.Parts()), 120)
		flushed(t, l, "new")
		b, _ := s.Read("log.120")
		wantSame(t, "the last part", string(b), sealsOf("record 120", "", "record 120again", "new"))
	}
	s = laid(t, 1<<20, slices.Concat(files, []string{"check", checkOf(121, "c")})...)
	l = wantOpen(t, "all are elder", s, 100, "c")
	wantSame(t, "Parts", len(l.Parts()), 121)
	s = laid(t, 1<<20, slices.Concat(files, []string{"check", checkOf(122, "c")})...)
	wantSame(t, "Parts with a gap behind elder ones", len(wantOpen(t, "all are elder", s, 100, "c").Parts()), 121)
}

func TestElderPartsAreNotReadOrTouched(t *testing.T) {
	for _, elder := range []string{"", "damage", sealOf("elder"), sealOf("elder") + "torn"} {
		s := laid(t, 1000, "check", checkOf(5, "c"), "log.2", elder, "log.4", elder, "log.5", sealOf("a"), "log.6", sealOf("b"))
		wantOpen(t, "elder ones", s, 100, "c", "a", "b")
		wantSame(t, "the files", held(s), []string{"check=" + checkOf(5, "c"), "log.2=" + elder, "log.4=" + elder, "log.5=" + sealOf("a"), "log.6=" + sealOf("b")})
	}
}

func TestANumberThatLacks(t *testing.T) {
	for _, c := range []struct {
		first uint64
		parts []int
		want  api.Errno
	}{
		{1, []int{1}, api.OK}, {1, []int{1, 2}, api.OK}, {1, []int{1, 2, 3}, api.OK}, {1, []int{2}, api.ErrDamage}, {1, []int{3}, api.ErrDamage}, {1, []int{1, 3}, api.ErrDamage},
		{1, []int{2, 3}, api.ErrDamage}, {1, []int{1, 2, 4}, api.ErrDamage}, {1, []int{1, 3, 4}, api.ErrDamage}, {1, []int{last}, api.ErrDamage}, {1, []int{1, last}, api.ErrDamage},
		{3, []int{1}, api.OK}, {3, []int{1, 2}, api.OK}, {3, []int{3}, api.OK}, {3, []int{1, 3}, api.OK}, {3, []int{2, 3, 4}, api.OK}, {3, []int{4}, api.ErrDamage}, {3, []int{2, 4}, api.ErrDamage},
		{3, []int{3, 5}, api.ErrDamage}, {3, []int{1, 3, 4, 6}, api.ErrDamage}, {9, []int{9, 10, 11}, api.OK}, {9, []int{9, 11}, api.ErrDamage}, {9, []int{10}, api.ErrDamage},
		{last - 1, []int{last - 1, last}, api.OK}, {last - 1, []int{last}, api.ErrDamage}, {last, []int{last}, api.OK}, {last, []int{1, last - 1}, api.OK},
	} {
		for _, torn := range []string{"", "torn"} {
			files := []string{"check", checkOf(c.first, "c")}
			var want []string
			for i, n := range c.parts {
				r := fmt.Sprint("r", n)
				if i == len(c.parts)-1 {
					files = append(files, Name(n), sealOf(r)+torn)
				} else {
					files = append(files, Name(n), sealOf(r))
				}
				if n >= int(c.first) {
					want = append(want, r)
				}
			}
			what := fmt.Sprintf("first %d, parts %v", c.first, c.parts)
			s := laid(t, 1000, files...)
			if c.want != api.OK {
				wantShut(t, what, s, 100, c.want)
				continue
			}
			wantOpen(t, what, s, 100, "c", want...)
		}
	}
	wantShut(t, "no checkpoint, and not the first one", laid(t, 1000, "log.2", sealOf("a")), 100, api.ErrDamage)
}

// damages are bytes that are no whole seals.
func damages() []string {
	flipped := []byte(sealOf("content"))
	flipped[6] ^= 1
	whole := sealOf("content")
	l := []string{"x", "\x00\x00\x00", "\x00\x00\x00\x00", "\xff\xff\xff\xff", be(1<<20+1, 4) + "much too long", string(flipped), string(flipped) + whole}
	for n := 1; n < len(whole); n++ {
		l = append(l, whole[:n])
	}
	return l
}

func TestMoreBytesInAPartButTheLast(t *testing.T) {
	for _, more := range damages() {
		for _, content := range []string{"", sealOf("a"), sealsOf("a", "", "b")} {
			for _, behind := range [][]string{{"log.2", ""}, {"log.2", sealOf("b")}, {"log.2", sealOf("b") + "torn"}, {"log.2", "", "log.3", "", "log.4", "torn"}} {
				s := laid(t, 1000, slices.Concat([]string{"log.1", content + more}, behind)...)
				wantShut(t, fmt.Sprintf("log.1 is %q", content+more), s, 100, api.ErrDamage)
			}
			s := laid(t, 1000, "log.1", "", "log.2", content+more, "log.3", "")
			wantShut(t, fmt.Sprintf("log.2 is %q", content+more), s, 100, api.ErrDamage)
			s = laid(t, 1000, "check", checkOf(2, ""), "log.2", content+more, "log.3", "")
			wantShut(t, fmt.Sprintf("the first is %q", content+more), s, 100, api.ErrDamage)
		}
	}
}

func TestTheTornEndIsCutOff(t *testing.T) {
	for _, more := range damages() {
		for _, records := range [][]string{nil, {"a"}, {"", "a", ""}, {strings.Repeat("long", 50)}} {
			for _, ahead := range [][]string{nil, {"p"}, {"p", "", "q"}} {
				files, content := []string{"log.1", sealsOf(ahead...)}, sealsOf(records...)
				want := []string{"log.1=" + sealsOf(ahead...), "log.2=" + content}
				s := laid(t, 10000, append(files, "log.2", content+more)...)
				what, count := fmt.Sprintf("log.2 is %q", content+more), s.Count()
				wantOpen(t, what, s, 100, "", slices.Concat(ahead, records)...)
				wantSame(t, what+": the files", held(s), want)
				wantSame(t, what+": Cut and Sync are counted", s.Count()-count, 2)
				s.Fail(math.MaxInt)
				s.Power()
				wantSame(t, what+": the files behind a failure", held(s), want)
				count = s.Count()
				l := wantOpen(t, what, s, 100, "", slices.Concat(ahead, records)...)
				wantSame(t, what+": Sync is counted", s.Count()-count, 1)
				flushed(t, l, "new")
				wantOpen(t, what, s, 100, "", slices.Concat(ahead, records, []string{"new"})...)
			}
		}
	}
}

// TestWhatIsToldIsSure: records that another one wrote and did not sync are sure, once Open told them.
func TestWhatIsToldIsSure(t *testing.T) {
	s := laid(t, 1000, "log.1", sealOf("a"))
	wantErr(t, "Write", s.Write("log.1", []byte(sealOf("b"))), api.OK)
	wantOpen(t, "not synced", s, 100, "", "a", "b")
	s.Fail(0)
	s.Power()
	wantOpen(t, "synced by Open", s, 100, "", "a", "b")
}

func TestTheFirstPartIsMade(t *testing.T) {
	for _, c := range []struct {
		files []string
		first int
	}{
		{nil, 1}, {[]string{"check", checkOf(1, "c")}, 1}, {[]string{"check", checkOf(7, "c")}, 7}, {[]string{"check", checkOf(7, "c"), "log.1", "x", "log.6", sealOf("old")}, 7},
		{[]string{"check", checkOf(last, "c")}, last}, {[]string{"check.new", checkOf(3, "c"), "a", "b"}, 1},
	} {
		s := laid(t, 1000, c.files...)
		count, before := s.Count(), held(s)
		l := begun(t, s, 100)
		wantSame(t, "Make and Commit are counted", s.Count()-count, 2)
		want := slices.Sorted(slices.Values(append(before, Name(c.first)+"=")))
		wantSame(t, "the files", held(s), want)
		s.Fail(0)
		s.Power()
		wantSame(t, "the files behind a failure", held(s), want)
		parts := l.Parts()
		wantSame(t, "the last part", parts[len(parts)-1], c.first)
	}
}

func TestTheStoresErrorsInOpen(t *testing.T) {
	for room := range 16 {
		wantShut(t, fmt.Sprint("room ", room), store.New(room), 100, api.ErrSpace)
	}
	begun(t, store.New(16), 100)
	whole := checkOf(2, "c")
	wantShut(t, "room for the checkpoint alone", laid(t, 16+len(whole)+15, "check", whole), 100, api.ErrSpace)
	begun(t, laid(t, 16+len(whole)+16, "check", whole), 100)
	for _, c := range []struct {
		files []string
		calls int
	}{{nil, 2}, {[]string{"log.1", sealOf("a")}, 1}, {[]string{"log.1", sealOf("a") + "torn"}, 2}, {[]string{"check", checkOf(2, "c"), "log.1", "x"}, 2}} {
		for n := 1; n <= c.calls; n++ {
			s := laid(t, 1000, c.files...)
			before := held(s)
			s.Plan(n, 5)
			l, check, records, err := Open(s, 100)
			wantErr(t, fmt.Sprintf("Open, and call %d fails", n), err, api.ErrDark)
			if l != nil || check != nil || records != nil || s.On() {
				t.Fatalf("beside ErrDark Open tells %v %q %q", l, check, records)
			}
			s.Power()
			wantSame(t, "the files", held(s), before)
			begun(t, s, 100)
		}
		s := laid(t, 1000, c.files...)
		s.Plan(c.calls+1, 5)
		begun(t, s, 100)
	}
}

// P12.3: Add and Pending

func TestAddWaits(t *testing.T) {
	s := store.New(10000)
	l := begun(t, s, 100)
	before := told(s)
	for n := range 20 {
		wantSame(t, "Pending", l.Pending(), n)
		adds(t, l, strings.Repeat("x", n))
		wantSame(t, "the store behind Add", told(s), before)
	}
	wantErr(t, "Flush", l.Flush(), api.OK)
	wantSame(t, "Pending", l.Pending(), 0)
	var want []string
	for n := range 20 {
		want = append(want, strings.Repeat("x", n))
	}
	wantOpen(t, "behind Flush", s, 100, "", want...)
}

func TestWhatWaitsIsNotSure(t *testing.T) {
	s := store.New(10000)
	l := begun(t, s, 100)
	flushed(t, l, "a")
	adds(t, l, "b", "c")
	wantOpen(t, "another one", s, 100, "", "a")
	wantSame(t, "Pending", l.Pending(), 2)
}

func TestTheLongestRecord(t *testing.T) {
	s := store.New(1 << 22)
	l := begun(t, s, 1<<20)
	before := told(s)
	for _, n := range []int{limit + 1, limit + 2, 1 << 20, 1<<20 + 1, 1 << 24} {
		wantErr(t, fmt.Sprintf("Add of %d bytes", n), l.Add(make([]byte, n)), api.ErrLimit)
		wantErr(t, fmt.Sprintf("Mark of %d bytes", n), l.Mark(make([]byte, n)), api.ErrLimit)
		wantSame(t, "Pending", l.Pending(), 0)
	}
	wantSame(t, "the store", told(s), before)
	longest := strings.Repeat("0123456789abcdef", 1<<16)[:limit]
	flushed(t, l, longest, "b")
	_, _, records, err := Open(s, 1<<20)
	wantErr(t, "Open", err, api.OK)
	if len(records) != 2 || string(records[0]) != longest || string(records[1]) != "b" {
		t.Fatal("the longest record is another one")
	}
	marked(t, l, longest)
	_, check, _, err := Open(s, 1<<20)
	wantErr(t, "Open", err, api.OK)
	if string(check) != longest {
		t.Fatal("the longest checkpoint is another one")
	}
}

func TestAThousandWait(t *testing.T) {
	s := store.New(1 << 20)
	l := begun(t, s, 100)
	var want []string
	for n := range 1000 {
		want = append(want, fmt.Sprint(n))
		wantSame(t, "Pending", l.Pending(), n)
		adds(t, l, want[n])
	}
	before := told(s)
	for _, b := range []string{"", "x", "1000"} {
		wantErr(t, "Add of one more", l.Add([]byte(b)), api.ErrLimit)
		// The same as in Add, the chapter says.
		wantErr(t, "Mark, and a thousand wait", l.Mark([]byte(b)), api.ErrLimit)
	}
	wantSame(t, "Pending", l.Pending(), 1000)
	wantSame(t, "the store", told(s), before)
	wantErr(t, "Flush", l.Flush(), api.OK)
	wantSame(t, "Pending", l.Pending(), 0)
	flushed(t, l, "behind")
	wantOpen(t, "a thousand", s, 100, "", append(want, "behind")...)
}

func TestMarkOfOneLessThanAThousand(t *testing.T) {
	s := store.New(1 << 20)
	l := begun(t, s, 1<<20)
	for range 999 {
		adds(t, l, "r")
	}
	marked(t, l, "c")
	wantSame(t, "Pending", l.Pending(), 0)
	wantOpen(t, "marked", s, 100, "c")
}

// P12.3: Flush

func TestFlushOfNothing(t *testing.T) {
	s := store.New(1000)
	l := begun(t, s, 1)
	s.Plan(1, 0)
	before := told(s)
	for range 3 {
		wantErr(t, "Flush", l.Flush(), api.OK)
	}
	wantSame(t, "the store", told(s), before)
	// Not even if the part has enough for the next one.
	s = laid(t, 1000, "log.1", sealsOf("a", "b"))
	l = begun(t, s, 1)
	before = told(s)
	wantErr(t, "Flush", l.Flush(), api.OK)
	wantSame(t, "the store", told(s), before)
	flushed(t, l, "c")
	wantSame(t, "Parts", l.Parts(), []int{1, 2})
}

func TestFlushIsOneWriteAndSync(t *testing.T) {
	s := store.New(10000)
	l := begun(t, s, 1000)
	all := ""
	for n := 1; n < 10; n++ {
		count := s.Count()
		for i := range n {
			r := fmt.Sprint("r", n, i)
			adds(t, l, r)
			all += sealOf(r)
		}
		wantErr(t, "Flush", l.Flush(), api.OK)
		wantSame(t, "Write and Sync are counted", s.Count()-count, 2)
		wantSame(t, "the files", held(s), []string{"log.1=" + all})
	}
	s.Fail(0)
	s.Power()
	wantSame(t, "the files behind a failure", held(s), []string{"log.1=" + all})
}

func TestTheNextPart(t *testing.T) {
	for part := 1; part < 60; part++ {
		s := store.New(10000)
		l := begun(t, s, part)
		// What each part must have, reckoned by hand: 9 bytes a record.
		want, number, bytes := []int{1}, 1, 0
		for range 30 {
			count := s.Count()
			flushed(t, l, "r")
			bytes += 9
			calls := 2
			if bytes > part {
				number, bytes, calls = number+1, 0, 4
				want = append(want, number)
			}
			wantSame(t, fmt.Sprintf("Parts, part %d", part), l.Parts(), want)
			wantSame(t, "calls", s.Count()-count, calls)
			// The directory is sure, and so are the parts.
			before := held(s)
			s.Fail(0)
			s.Power()
			wantSame(t, "behind a failure", held(s), before)
		}
		wantOpen(t, "all", s, part, "", slices.Repeat([]string{"r"}, 30)...)
	}
}

func TestTheNextPartAtItsEdge(t *testing.T) {
	for _, size := range []int{1, 2, 100, 1000, 1<<20 - 64 - 8} {
		for more := -1; more <= 1; more++ {
			s := store.New(1 << 22)
			l := begun(t, s, size+8)
			flushed(t, l, strings.Repeat("x", size+more))
			want := []int{1}
			if more == 1 {
				want = []int{1, 2}
			}
			wantSame(t, fmt.Sprintf("Parts, %d bytes of %d", size+8+more, size+8), l.Parts(), want)
		}
	}
	// A part that has the whole of 2^20 bytes, and one more.
	for more := range 2 {
		s := store.New(1 << 22)
		l := begun(t, s, 1<<20)
		flushed(t, l, strings.Repeat("x", limit), strings.Repeat("y", 64-16+more))
		wantSame(t, "Parts", len(l.Parts()), 1+more)
	}
}

// TestAPartThatWasThere: what a part had when it was opened counts too, without what was cut off.
func TestAPartThatWasThere(t *testing.T) {
	for _, c := range []struct {
		was  string
		part int
		want int
	}{
		{sealOf("a"), 18, 1}, {sealOf("a"), 17, 2}, {sealOf("a") + "torn", 18, 1}, {sealOf("a") + "torn", 17, 2}, {sealsOf("a", "b"), 26, 2}, {sealsOf("a", "b"), 27, 1}, {"torn", 9, 1}, {"torn", 8, 2},
	} {
		s := laid(t, 1000, "log.1", c.was)
		l := begun(t, s, c.part)
		wantSame(t, "Parts behind Open", l.Parts(), []int{1})
		flushed(t, l, "r")
		wantSame(t, fmt.Sprintf("Parts, %q of %d", c.was, c.part), len(l.Parts()), c.want)
	}
}

func TestFlushWithoutRoom(t *testing.T) {
	for room := 16; room < 60; room++ {
		s := store.New(room)
		l := begun(t, s, 1<<20)
		adds(t, l, "a", "b")
		before := told(s)
		if room < 16+18 {
			for range 2 {
				wantErr(t, "Flush", l.Flush(), api.ErrSpace)
				wantSame(t, "Pending", l.Pending(), 2)
				wantSame(t, "the store", told(s), before)
				wantErr(t, "Mark", l.Mark(nil), api.ErrSpace)
				wantSame(t, "Pending", l.Pending(), 2)
				wantSame(t, "the store", told(s), before)
			}
			adds(t, l, "it is not dead")
			continue
		}
		wantErr(t, "Flush", l.Flush(), api.OK)
		wantOpen(t, "there was room", s, 100, "", "a", "b")
	}
}

func TestWhatWaitedForRoomComes(t *testing.T) {
	s := laid(t, 60, "big", strings.Repeat("x", 20))
	l := begun(t, s, 1<<20)
	adds(t, l, "a", "b")
	wantErr(t, "Flush", l.Flush(), api.ErrSpace)
	adds(t, l, "c")
	wantErr(t, "Drop", s.Drop("big"), api.OK)
	wantErr(t, "Flush", l.Flush(), api.OK)
	wantSame(t, "Pending", l.Pending(), 0)
	wantOpen(t, "there was room", s, 100, "", "a", "b", "c")
}

func TestFlushToAPartThatIsGone(t *testing.T) {
	s := store.New(1000)
	l := begun(t, s, 100)
	wantErr(t, "Drop", s.Drop("log.1"), api.OK)
	adds(t, l, "a")
	wantErr(t, "Flush", l.Flush(), api.ErrMissing)
	wantErr(t, "Mark", l.Mark(nil), api.ErrMissing)
	wantSame(t, "Pending", l.Pending(), 1)
	wantErr(t, "Make", s.Make("log.1"), api.OK)
	wantErr(t, "Flush", l.Flush(), api.OK)
	wantOpen(t, "it is back", s, 100, "", "a")
}

// TestTheNextPartIsNotMade: an error of Make is not told, the last part grows, and the next one is made as soon as it can be.
func TestTheNextPartIsNotMade(t *testing.T) {
	s := laid(t, 2*16+36+2*9+15, "big", strings.Repeat("x", 20))
	l := begun(t, s, 1)
	for n := 1; n <= 3; n++ {
		count := s.Count()
		flushed(t, l, "r")
		wantSame(t, "Pending", l.Pending(), 0)
		wantSame(t, "calls", s.Count()-count, map[bool]int{true: 4, false: 2}[n == 1])
		if n == 1 {
			// There was room: from here on there is none for one more.
			wantSame(t, "Parts", l.Parts(), []int{1, 2})
		}
	}
	wantSame(t, "Parts", l.Parts(), []int{1, 2})
	wantErr(t, "Drop", s.Drop("big"), api.OK)
	flushed(t, l, "r")
	wantSame(t, "Parts", l.Parts(), []int{1, 2, 3})
	wantOpen(t, "all", s, 100, "", "r", "r", "r", "r")
}

func TestTheNextPartIsTaken(t *testing.T) {
	s := store.New(10000)
	l := begun(t, s, 1)
	wantErr(t, "Make", s.Make("log.2"), api.OK)
	for n := range 3 {
		flushed(t, l, "r")
		wantSame(t, "Parts", l.Parts(), []int{1, 2})
		wantSame(t, "the files", held(s), []string{"log.1=" + sealsOf(slices.Repeat([]string{"r"}, n+1)...), "log.2="})
	}
	wantErr(t, "Drop", s.Drop("log.2"), api.OK)
	flushed(t, l, "s")
	flushed(t, l, "t")
	wantSame(t, "Parts", l.Parts(), []int{1, 2, 3})
	wantOpen(t, "all", s, 100, "", "r", "r", "r", "s", "t")
}

func TestTheLastNumber(t *testing.T) {
	s := laid(t, 1000, "check", checkOf(last-1, "c"))
	l := begun(t, s, 10)
	flushed(t, l, "abc")
	wantSame(t, "Parts", l.Parts(), []int{last - 1, last})
	for range 3 {
		count := s.Count()
		flushed(t, l, "def")
		wantSame(t, "calls", s.Count()-count, 2)
		wantSame(t, "Parts", l.Parts(), []int{last - 1, last})
	}
	wantOpen(t, "all", s, 10, "c", "abc", "def", "def", "def")
}

// TestFlushFails: at each of its calls, with each number of bytes kept.
func TestFlushFails(t *testing.T) {
	batch := sealsOf("bb", "", "ccc")
	for n := 1; n <= 5; n++ {
		for _, keep := range keeps {
			s := store.New(10000)
			l := begun(t, s, 1)
			flushed(t, l, "a")
			adds(t, l, "bb", "", "ccc")
			s.Plan(n, keep)
			want, waits, records := api.ErrDark, 3, []string{"a"}
			switch n {
			case 2: // Sync: what was written is kept up to there.
				rest := batch[:min(max(keep, 0), len(batch))]
				whole, _ := plainSeals(rest)
				records = append(records, whole...)
			case 3, 4: // Make, Commit: they are sure, and wait no more.
				waits, records = 0, []string{"a", "bb", "", "ccc"}
			case 5:
				want, waits, records = api.OK, 0, []string{"a", "bb", "", "ccc"}
			}
			what := fmt.Sprintf("call %d fails, keep %d", n, keep)
			wantErr(t, what+": Flush", l.Flush(), want)
			wantSame(t, what+": Pending", l.Pending(), waits)
			if want == api.ErrDark {
				wantDead(t, what, s, l, waits)
			}
			s.Power() // Nothing is planned any more.
			other := wantOpen(t, what, s, 1, "", records...)
			if n == 5 {
				wantSame(t, what+": Parts", other.Parts(), []int{1, 2, 3})
			} else {
				wantSame(t, what+": Parts", other.Parts(), []int{1, 2})
			}
		}
	}
}

// P12.3: a ledger that is dead

// wantDead: with power or without, each call of a ledger is ErrDark, and changes nothing. The power is on behind it.
func wantDead(t *testing.T, what string, s *store.Store, l *Ledger, waits int) {
	t.Helper()
	for range 2 {
		before := told(s)
		for _, b := range [][]byte{nil, []byte("x"), make([]byte, limit+1)} {
			wantErr(t, what+": Add", l.Add(b), api.ErrDark)
			wantErr(t, what+": Mark", l.Mark(b), api.ErrDark)
		}
		wantErr(t, what+": Flush", l.Flush(), api.ErrDark)
		wantSame(t, what+": Pending", l.Pending(), waits)
		wantSame(t, what+": Parts", l.Parts(), plainParts(s))
		wantSame(t, what+": the store", told(s), before)
		s.Power()
	}
}

func TestWithoutPowerItIsDead(t *testing.T) {
	calls := map[string]func(*Ledger) api.Errno{
		"Add":              func(l *Ledger) api.Errno { return l.Add([]byte("x")) },
		"Add of too much":  func(l *Ledger) api.Errno { return l.Add(make([]byte, limit+1)) },
		"Flush":            (*Ledger).Flush,
		"Mark":             func(l *Ledger) api.Errno { return l.Mark([]byte("c")) },
		"Mark of too much": func(l *Ledger) api.Errno { return l.Mark(make([]byte, limit+1)) },
	}
	for what, call := range calls {
		for waits := range 3 {
			s := store.New(1000)
			l := begun(t, s, 100)
			flushed(t, l, "sure")
			adds(t, l, slices.Repeat([]string{"w"}, waits)...)
			s.Fail(0)
			wantErr(t, what, call(l), api.ErrDark)
			s.Power()
			wantDead(t, what, s, l, waits)
			wantOpen(t, what, s, 100, "", "sure")
		}
	}
}

// TestAFailureThatItDidNotSee: none of its calls answered ErrDark, and the store has power: it is not dead, and what it had flushed is there.
func TestAFailureThatItDidNotSee(t *testing.T) {
	for _, keep := range keeps {
		s := store.New(10000)
		l := begun(t, s, 10)
		flushed(t, l, "a", "b")
		adds(t, l, "c")
		s.Fail(keep)
		wantSame(t, "Pending without power", l.Pending(), 1)
		wantSame(t, "Parts without power", len(l.Parts()), 0)
		s.Power()
		wantSame(t, "Parts with power", l.Parts(), []int{1, 2})
		flushed(t, l, "d")
		marked(t, l, "check")
		s.Fail(keep)
		s.Power()
		flushed(t, l, "e")
		wantOpen(t, "all", s, 10, "check", "e")
	}
}

func TestOtherErrorsDoNotKill(t *testing.T) {
	s := laid(t, 200, "big", strings.Repeat("x", 120))
	l := begun(t, s, 1)
	wantErr(t, "Add", l.Add(make([]byte, limit+1)), api.ErrLimit)
	wantErr(t, "Mark", l.Mark(make([]byte, limit+1)), api.ErrLimit)
	wantErr(t, "Mark", l.Mark(make([]byte, 100)), api.ErrSpace)
	adds(t, l, strings.Repeat("y", 100))
	wantErr(t, "Flush", l.Flush(), api.ErrSpace)
	wantErr(t, "Drop", s.Drop("big"), api.OK)
	wantErr(t, "Flush", l.Flush(), api.OK)
	wantOpen(t, "it lived", s, 1, "", strings.Repeat("y", 100))
}

// P12.4

func TestMark(t *testing.T) {
	s := store.New(10000)
	l := begun(t, s, 10)
	flushed(t, l, "a")
	flushed(t, l, "b")
	flushed(t, l, "c")
	wantSame(t, "Parts", l.Parts(), []int{1, 2})
	adds(t, l, "d", "e")
	marked(t, l, "first")
	wantSame(t, "Pending", l.Pending(), 0)
	// Flush began part 3.
	wantSame(t, "the files", held(s), []string{"check=" + checkOf(4, "first"), "log.4="})
	wantSame(t, "Parts", l.Parts(), []int{4})
	marked(t, l, "")
	wantSame(t, "the files", held(s), []string{"check=" + checkOf(5, ""), "log.5="})
	flushed(t, l, "f")
	wantSame(t, "the files", held(s), []string{"check=" + checkOf(5, ""), "log.5=" + sealOf("f")})
	s.Fail(0)
	s.Power()
	wantOpen(t, "behind a failure", s, 10, "", "f")
	marked(t, l, "last")
	s.Fail(0)
	s.Power()
	wantSame(t, "the files", held(s), []string{"check=" + checkOf(6, "last"), "log.6="})
	wantOpen(t, "behind a failure", s, 10, "last")
}

func TestMarksFlushToo(t *testing.T) {
	s := store.New(10000)
	l := begun(t, s, 100)
	adds(t, l, "a")
	wantErr(t, "Make", s.Make("log.2"), api.OK)
	wantErr(t, "Mark", l.Mark([]byte("c")), api.ErrTaken)
	wantSame(t, "Pending", l.Pending(), 0)
	wantErr(t, "Drop", s.Drop("log.2"), api.OK)
	wantOpen(t, "flushed, not marked", s, 100, "", "a")
}

// counts of Mark: what it does with nothing waiting and one part.
func TestTheCallsOfMark(t *testing.T) {
	s := store.New(10000)
	l := begun(t, s, 100)
	count := s.Count()
	marked(t, l, "c")
	wantSame(t, "calls", s.Count()-count, 8) // Make, Write, Sync, Make, Move, Commit; Drop, Commit
	adds(t, l, "r")
	count = s.Count()
	marked(t, l, "c")
	wantSame(t, "calls with a record", s.Count()-count, 10)
	wantErr(t, "Make", s.Make("check.new"), api.OK)
	count = s.Count()
	marked(t, l, "c")
	wantSame(t, "calls with a check.new", s.Count()-count, 9)
}

func TestMarkDropsWhatIsLeft(t *testing.T) {
	for _, left := range []string{"", "damage", checkOf(9, "another")} {
		s := laid(t, 10000, "check.new", left)
		l := begun(t, s, 100)
		marked(t, l, "c")
		wantSame(t, "the files", held(s), []string{"check=" + checkOf(2, "c"), "log.2="})
	}
	s := laid(t, 10000, "check", checkOf(12, "old"), "log.1", "x", "log.3", "y", "log.11", "", "log.12", "", "log.13", "", "log.x", "z")
	l := begun(t, s, 100)
	wantSame(t, "Parts", l.Parts(), []int{1, 3, 11, 12, 13})
	marked(t, l, "c")
	wantSame(t, "the files", held(s), []string{"check=" + checkOf(14, "c"), "log.14=", "log.x=z"})
	// All other parts, those of greater numbers too.
	wantErr(t, "Make", s.Make("log.20"), api.OK)
	marked(t, l, "c")
	wantSame(t, "Parts", l.Parts(), []int{15})
	s.Fail(0)
	s.Power()
	wantSame(t, "the files", held(s), []string{"check=" + checkOf(15, "c"), "log.15=", "log.x=z"})
}

// TestMarkFails: at each of its calls; files that a failure leaves.
func TestMarkFails(t *testing.T) {
	for _, keep := range keeps {
		for n := 1; n <= 12; n++ {
			s := laid(t, 10000, "check", checkOf(3, "old"), "log.2", "elder", "log.3", sealOf("a"))
			l := begun(t, s, 100)
			adds(t, l, "bb")
			s.Plan(n, keep)
			want := api.ErrDark
			if n == 12 {
				want = api.OK
			}
			what := fmt.Sprintf("call %d fails, keep %d", n, keep)
			wantErr(t, what, l.Mark([]byte("new")), want)
			waits := 0
			if n <= 2 {
				waits = 1
			}
			if n < 12 {
				wantDead(t, what, s, l, waits)
			}
			s.Power() // Nothing is planned any more.
			log := sealOf("a")
			if n == 2 {
				log += sealOf("bb")[:min(max(keep, 0), 10)]
			} else if n > 2 {
				log += sealOf("bb")
			}
			files := []string{"check=" + checkOf(3, "old"), "log.2=elder", "log.3=" + log}
			switch {
			case n == 12:
				files = []string{"check=" + checkOf(4, "new"), "log.4="}
			case n > 8: // The checkpoint is sure, but elder parts are still there.
				files = []string{"check=" + checkOf(4, "new"), "log.2=elder", "log.3=" + log, "log.4="}
			}
			wantSame(t, what+": the files", held(s), files)
			if n > 8 {
				other := wantOpen(t, what, s, 100, "new")
				marked(t, other, "next")
				wantSame(t, what+": Parts", other.Parts(), []int{5})
				continue
			}
			whole, _ := plainSeals(log)
			wantOpen(t, what, s, 100, "old", whole...)
		}
	}
}

// TestMarkWithoutRoom: at each room, which of its calls has none, and what is left.
func TestMarkWithoutRoom(t *testing.T) {
	check, record := strings.Repeat("c", 10), strings.Repeat("r", 4)
	file := checkOf(2, check) // 26 bytes
	for room := 16; room < 100; room++ {
		s := store.New(room)
		l := begun(t, s, 100)
		adds(t, l, record)
		want, waits, files := api.ErrSpace, 0, []string{"log.1=" + sealOf(record)}
		switch {
		case room < 16+12: // Write of the record
			waits, files = 1, []string{"log.1="}
		case room < 28+16: // Make of check.new
		case room < 44+26: // Write of it
			files = []string{"check.new=", "log.1=" + sealOf(record)}
		case room < 70+16: // Make of the part
			files = []string{"check.new=" + file, "log.1=" + sealOf(record)}
		default:
			want, files = api.OK, []string{"check=" + file, "log.2="}
		}
		what := fmt.Sprint("room ", room)
		for range 2 {
			wantErr(t, what, l.Mark([]byte(check)), want)
			wantSame(t, what+": Pending", l.Pending(), waits)
			wantSame(t, what+": the files", held(s), files)
			if want == api.OK {
				break
			}
		}
		s.Fail(math.MaxInt)
		s.Power()
		switch {
		case want == api.OK:
			wantOpen(t, what, s, 100, check)
		case waits == 0:
			wantOpen(t, what, s, 100, "", record)
		}
	}
}

func TestAMarkThatHadNoRoomIsDoneLater(t *testing.T) {
	s := laid(t, 150, "big", strings.Repeat("x", 60))
	l := begun(t, s, 1)
	for range 3 {
		wantErr(t, "Mark", l.Mark([]byte(strings.Repeat("c", 20))), api.ErrSpace)
	}
	wantErr(t, "Drop", s.Drop("big"), api.OK)
	marked(t, l, "later")
	wantSame(t, "the files", held(s), []string{"check=" + checkOf(2, "later"), "log.2="})
	s.Fail(0)
	s.Power()
	wantOpen(t, "later", s, 100, "later")
}

func TestMarkAtAPartThatIsTaken(t *testing.T) {
	s := store.New(10000)
	l := begun(t, s, 100)
	flushed(t, l, "a")
	wantErr(t, "Make", s.Make("log.2"), api.OK)
	for range 2 {
		wantErr(t, "Mark", l.Mark([]byte("c")), api.ErrTaken)
		wantSame(t, "the files", held(s), []string{"check.new=" + checkOf(2, "c"), "log.1=" + sealOf("a"), "log.2="})
	}
	flushed(t, l, "b")
	wantErr(t, "Drop", s.Drop("log.2"), api.OK)
	marked(t, l, "d")
	wantOpen(t, "marked", s, 100, "d")
}

func TestMarkOverTheLastNumber(t *testing.T) {
	s := laid(t, 1000, "check", checkOf(last-1, "c"))
	l := begun(t, s, 100)
	flushed(t, l, "a")
	marked(t, l, "d")
	wantSame(t, "the files", held(s), []string{"check=" + checkOf(last, "d"), "log.999999999="})
	adds(t, l, "b")
	wantErr(t, "Mark", l.Mark([]byte("e")), api.ErrOver)
	wantSame(t, "Pending: it was flushed", l.Pending(), 0)
	wantErr(t, "Make", s.Make("check.new"), api.OK)
	before := told(s)
	for range 2 {
		wantErr(t, "Mark", l.Mark([]byte("e")), api.ErrOver)
		wantSame(t, "the store", told(s), before)
	}
	// The errors that are named ahead of it.
	wantErr(t, "Mark of too much", l.Mark(make([]byte, limit+1)), api.ErrLimit)
	adds(t, l, strings.Repeat("x", 2000))
	wantErr(t, "Mark without room", l.Mark(nil), api.ErrSpace)
	wantSame(t, "Pending", l.Pending(), 1)
	s.Fail(0)
	wantErr(t, "Mark without power", l.Mark(nil), api.ErrDark)
	s.Power()
	wantOpen(t, "at the end", s, 100, "d", "b")
}

// TestMarkIsOverBehindItsFlush: the part that Flush begins is the last one that may be.
func TestMarkIsOverBehindItsFlush(t *testing.T) {
	s := laid(t, 1000, "check", checkOf(last-1, "c"))
	l := begun(t, s, 1)
	adds(t, l, "a")
	wantErr(t, "Mark", l.Mark([]byte("e")), api.ErrOver)
	wantSame(t, "the files", held(s), []string{"check=" + checkOf(last-1, "c"), "log.999999998=" + sealOf("a"), "log.999999999="})
	wantOpen(t, "behind it", s, 100, "c", "a")
}

func TestTheOrderOfMarksErrors(t *testing.T) {
	s := store.New(30)
	l := begun(t, s, 100)
	adds(t, l, "a record without room")
	before := told(s)
	wantErr(t, "too much, and no room to flush", l.Mark(make([]byte, limit+1)), api.ErrLimit)
	wantErr(t, "no room to flush", l.Mark(nil), api.ErrSpace)
	wantSame(t, "the store", told(s), before)
	s.Fail(0)
	wantErr(t, "no power, and too much", l.Mark(make([]byte, limit+1)), api.ErrDark)
}

func TestParts(t *testing.T) {
	s := store.New(10000)
	l := begun(t, s, 1)
	for n := 1; n < 15; n++ {
		wantSame(t, "Parts", l.Parts(), plainParts(s))
		wantSame(t, "how many", len(l.Parts()), n)
		flushed(t, l, "r")
	}
	wantErr(t, "Drop", s.Drop("log.7"), api.OK)
	wantErr(t, "Make", s.Make("log.999999999"), api.OK)
	wantSame(t, "Parts", l.Parts(), []int{1, 2, 3, 4, 5, 6, 8, 9, 10, 11, 12, 13, 14, 15, last})
	s.Fail(0)
	wantSame(t, "Parts without power", len(l.Parts()), 0)
	s.Power()
	wantSame(t, "how many behind a failure", len(l.Parts()), 15)
}

// P12.5

// life is what a ledger must keep, told by what was answered alone.
type life struct {
	check   string
	sure    []string // flushed since
	waiting []string
	// With a call that failed: what was being marked, if it was.
	failed bool
	mark   *string
}

// do does one call of a ledger, and keeps what must be behind it.
func (f *life) do(l *Ledger, kind, b string) api.Errno {
	waited := f.waiting
	var err api.Errno
	switch kind {
	case "Add":
		if err = l.Add([]byte(b)); err == api.OK {
			f.waiting = append(slices.Clone(waited), b)
		}
	case "Flush":
		err = l.Flush()
	case "Mark":
		err = l.Mark([]byte(b))
	}
	switch {
	case err == api.ErrDark:
		f.failed = true
		if kind == "Mark" {
			f.mark = &b
		}
	case kind == "Mark" && err == api.OK:
		f.check, f.sure, f.waiting = b, nil, nil
	case l.Pending() == 0:
		f.sure, f.waiting = slices.Concat(f.sure, f.waiting), nil
	}
	return err
}

// may: may Open tell this?
func (f *life) may(check string, records []string) bool {
	if f.mark != nil && check == *f.mark && len(records) == 0 {
		return true
	}
	if check != f.check || len(records) < len(f.sure) || !slices.Equal(records[:len(f.sure)], f.sure) {
		return false
	}
	rest := records[len(f.sure):]
	if !f.failed {
		return len(rest) == 0
	}
	return len(rest) <= len(f.waiting) && slices.Equal(rest, f.waiting[:len(rest)])
}

// again opens a store behind a failure, which must tell what it may, and that is kept from then on.
func (f *life) again(t *testing.T, what string, s *store.Store, part int) *Ledger {
	t.Helper()
	l, check, records, err := Open(s, part)
	wantErr(t, what+": Open", err, api.OK)
	if !f.may(string(check), texts(records)) {
		t.Fatalf("%s: told %q %q; sure were %q %q, failed %v, waiting %q, marking %v", what, check, texts(records), f.check, f.sure, f.failed, f.waiting, f.mark)
	}
	*f = life{check: string(check), sure: texts(records)}
	return l
}

// step is a call of a ledger.
type step struct{ kind, b string }

func everyRow(steps, row []step, count int, each func(row []step)) {
	if len(row) == count {
		each(row)
		return
	}
	for _, c := range steps {
		everyRow(steps, append(row, c), count, each)
	}
}

// TestEachFailureOfEachShortRow: all short rows of calls, a failure at each call of the store.
func TestEachFailureOfEachShortRow(t *testing.T) {
	steps := []step{{"Add", "a"}, {"Add", "longer than that"}, {"Flush", ""}, {"Mark", "check"}}
	for count := 1; count <= 5; count++ {
		everyRow(steps, nil, count, func(row []step) {
			for _, keep := range []int{0, 1, 9, 10, 30, math.MaxInt} {
				for n := 1; failsAt(t, row, n, keep); n++ {
				}
			}
		})
	}
}

// failsAt does a row with the n-th call of the store failing, and looks at what is left. Did one fail?
func failsAt(t *testing.T, row []step, n, keep int) bool {
	t.Helper()
	s, f := store.New(10000), &life{}
	l := begun(t, s, 20)
	s.Plan(n, keep)
	for i, c := range row {
		// Each checkpoint is another one.
		if c.kind == "Mark" {
			c.b += fmt.Sprint(i)
		}
		if f.do(l, c.kind, c.b) == api.ErrDark {
			break
		}
	}
	fell := !s.On()
	s.Fail(keep)
	s.Power()
	what := fmt.Sprintf("%v, call %d fails, keep %d", row, n, keep)
	f.again(t, what, s, 20)
	before := held(s)
	s.Fail(0)
	s.Power()
	f.again(t, what+", again", s, 20)
	wantSame(t, what+": what Open left is sure", held(s), before)
	return fell
}

// TestManyLives: many failures, one behind the other, also while it is opened, and with rooms that are too small.
func TestManyLives(t *testing.T) {
	for seed := range uint64(400) {
		room := one(&seed, []int{120, 200, 400, 5000})
		part := one(&seed, []int{1, 10, 30, 100, 1 << 20})
		s, f := store.New(room), &life{}
		for range 25 {
			what := fmt.Sprintf("seed %d, room %d, part %d", seed, room, part)
			if next(&seed)%4 == 0 {
				s.Plan(1+next(&seed)%2, next(&seed)%30)
				if _, _, _, err := Open(s, part); err != api.OK && err != api.ErrDark {
					t.Fatalf("%s: Open: %v", what, err)
				}
				s.Fail(next(&seed) % 30)
				s.Power()
			}
			l := f.again(t, what, s, part)
			if next(&seed)%4 > 0 {
				s.Plan(1+next(&seed)%40, next(&seed)%40-2)
			}
			for range next(&seed) % 40 {
				if f.byChance(l, &seed) == api.ErrDark {
					break
				}
				if next(&seed)%20 == 0 && s.On() {
					s.Fail(next(&seed)%30 - 2) // It may go on, if it is not dead.
					s.Power()
				}
			}
			s.Fail(next(&seed)%40 - 2)
			s.Power()
		}
	}
}

func (f *life) byChance(l *Ledger, seed *uint64) api.Errno {
	b := strings.Repeat(string(rune('a'+next(seed)%26)), next(seed)%12)
	switch next(seed) % 8 {
	case 0:
		return f.do(l, "Mark", "check "+fmt.Sprint(next(seed)))
	case 1, 2, 3:
		return f.do(l, "Flush", "")
	}
	return f.do(l, "Add", b)
}

// All of it against the chapter's words, done plainly over a store of its own

type plain struct {
	s    *store.Store
	part int
	last int
	wait []string
	dead bool
}

func plainOpen(s *store.Store, part int) (*plain, string, []string, api.Errno) {
	if !s.On() {
		return nil, "", nil, api.ErrDark
	}
	if part < 1 || part > 1<<20 {
		return nil, "", nil, api.ErrInput
	}
	first, check := 1, ""
	if b, err := s.Read("check"); err == api.OK {
		contents, rest := plainSeals(string(b))
		if len(contents) != 1 || rest != "" || len(contents[0]) < 8 {
			return nil, "", nil, api.ErrDamage
		}
		n := binary.BigEndian.Uint64([]byte(contents[0]))
		if n < 1 || n > last {
			return nil, "", nil, api.ErrDamage
		}
		first, check = int(n), contents[0][8:]
	}
	p := &plain{s: s, part: part, last: first}
	records, err := p.load(first)
	if err != api.OK {
		return nil, "", nil, err
	}
	return p, check, records, api.OK
}

func (p *plain) load(first int) ([]string, api.Errno) {
	for _, n := range plainParts(p.s) {
		p.last = max(p.last, n)
	}
	if p.last == first && !slices.Contains(p.s.Names(), fmt.Sprint("log.", first)) {
		if err := p.s.Make(fmt.Sprint("log.", first)); err != api.OK {
			return nil, err
		}
		return nil, p.s.Commit()
	}
	var all []string
	for n := first; n <= p.last; n++ {
		name := fmt.Sprint("log.", n)
		b, err := p.s.Read(name)
		if err != api.OK {
			return nil, api.ErrDamage
		}
		contents, rest := plainSeals(string(b))
		all = append(all, contents...)
		if n < p.last && rest != "" {
			return nil, api.ErrDamage
		}
		if n == p.last && rest != "" {
			if err := p.s.Cut(name, len(b)-len(rest)); err != api.OK {
				return nil, err
			}
		}
	}
	return all, p.s.Sync(fmt.Sprint("log.", p.last))
}

func (p *plain) Add(b []byte) api.Errno {
	switch {
	case p.dead || !p.s.On():
		p.dead = true
		return api.ErrDark
	case len(b) > limit || len(p.wait) == 1000:
		return api.ErrLimit
	}
	p.wait = append(p.wait, string(b))
	return api.OK
}

func (p *plain) Flush() api.Errno {
	err := p.flush()
	p.dead = p.dead || err == api.ErrDark
	return err
}

func (p *plain) flush() api.Errno {
	if p.dead || !p.s.On() {
		return api.ErrDark
	}
	if len(p.wait) == 0 {
		return api.OK
	}
	name := fmt.Sprint("log.", p.last)
	if err := p.s.Write(name, []byte(sealsOf(p.wait...))); err != api.OK {
		return err
	}
	if err := p.s.Sync(name); err != api.OK {
		return err
	}
	p.wait = nil
	if b, _ := p.s.Read(name); len(b) <= p.part || p.last == last {
		return api.OK
	}
	if err := p.s.Make(fmt.Sprint("log.", p.last+1)); err == api.ErrDark {
		return err
	} else if err != api.OK {
		return api.OK
	}
	if err := p.s.Commit(); err != api.OK {
		return err
	}
	p.last++
	return api.OK
}

func (p *plain) Mark(check []byte) api.Errno {
	err := p.mark(string(check))
	p.dead = p.dead || err == api.ErrDark
	return err
}

func (p *plain) mark(check string) api.Errno {
	if p.dead || !p.s.On() {
		return api.ErrDark
	}
	if len(check) > limit || len(p.wait) == 1000 {
		return api.ErrLimit
	}
	if err := p.flush(); err != api.OK {
		return err
	}
	if p.last+1 > last {
		return api.ErrOver
	}
	if slices.Contains(p.s.Names(), "check.new") {
		if err := p.s.Drop("check.new"); err != api.OK {
			return err
		}
	}
	if err := p.s.Make("check.new"); err != api.OK {
		return err
	}
	if err := p.s.Write("check.new", []byte(checkOf(uint64(p.last+1), check))); err != api.OK {
		return err
	}
	if err := p.s.Sync("check.new"); err != api.OK {
		return err
	}
	if err := p.s.Make(fmt.Sprint("log.", p.last+1)); err != api.OK {
		return err
	}
	if err := p.s.Move("check.new", "check"); err != api.OK {
		return err
	}
	if err := p.s.Commit(); err != api.OK {
		return err
	}
	p.last++
	for _, n := range plainParts(p.s) {
		if n != p.last {
			if err := p.s.Drop(fmt.Sprint("log.", n)); err == api.ErrDark {
				return err
			}
		}
	}
	if err := p.s.Commit(); err == api.ErrDark {
		return err
	}
	return api.OK
}

// pair is a ledger and the plain one, each over a store of its own to which the same was done.
type pair struct {
	s, t *store.Store
	l    *Ledger
	p    *plain
}

// open opens both anew; what they tell must be the same.
func (x *pair) open(t *testing.T, what string, part int) {
	t.Helper()
	l, check, records, err := Open(x.s, part)
	p, wantCheck, wantRecords, want := plainOpen(x.t, part)
	wantErr(t, what+": Open", err, want)
	wantSame(t, what+": checkpoint", string(check), wantCheck)
	wantSame(t, what+": records", texts(records), wantRecords)
	if (l == nil) != (p == nil) {
		t.Fatalf("%s: Ledger %v, want %v", what, l, p)
	}
	x.l, x.p = l, p
}

// store does the same to both stores.
func (x *pair) store(do func(*store.Store)) {
	do(x.s)
	do(x.t)
}

// meddle does something to the stores that a ledger does not know of.
func (x *pair) meddle(seed *uint64) {
	number := 1 + next(seed)%6
	if parts := plainParts(x.s); len(parts) > 0 && next(seed)%2 == 0 {
		number = min(one(seed, parts)+next(seed)%2, last)
	}
	name := one(seed, []string{Name(number), Name(number), "check", "check.new", "log.0", "other"})
	bytes := one(seed, []string{"", "x", sealOf("meddled"), checkOf(uint64(number), "m"), checkOf(last-1, "end"), checkOf(last+1, "over")})
	kind, n := next(seed)%8, next(seed)%20
	x.store(func(s *store.Store) {
		switch kind {
		case 0:
			s.Make(name)
		case 1, 2:
			s.Write(name, []byte(bytes))
		case 3:
			s.Drop(name)
		case 4:
			s.Cut(name, n)
		case 5:
			s.Sync(name)
		case 6:
			s.Commit()
		case 7:
			s.Drop("check")
			s.Make("check")
			s.Write("check", []byte(bytes))
		}
	})
}

// want: both must tell the same, and their stores.
func (x *pair) want(t *testing.T, what string) {
	t.Helper()
	wantSame(t, what+": the store", told(x.s), told(x.t))
	if x.l == nil {
		return
	}
	wantSame(t, what+": Pending", x.l.Pending(), len(x.p.wait))
	wantSame(t, what+": Parts", x.l.Parts(), plainParts(x.t))
}

func TestManyLongRows(t *testing.T) {
	for seed := range uint64(300) {
		room, meddling := one(&seed, []int{20, 60, 120, 300, 5000}), next(&seed)%2 == 0
		x := &pair{s: store.New(room), t: store.New(room)}
		for i := range 300 {
			what := fmt.Sprintf("seed %d, room %d, step %d", seed, room, i)
			if x.l == nil || next(&seed)%40 == 0 {
				x.open(t, what, one(&seed, []int{1, 9, 10, 30, 100, 1 << 20, 0, 1<<20 + 1}))
			}
			b := []byte(strings.Repeat("r", next(&seed)%12))
			n, keep := next(&seed)%12, next(&seed)%30-2
			switch kind := next(&seed) % 16; {
			case x.l != nil && kind < 5:
				wantErr(t, what+": Add", x.l.Add(b), x.p.Add(b))
			case x.l != nil && kind < 9:
				wantErr(t, what+": Flush", x.l.Flush(), x.p.Flush())
			case x.l != nil && kind < 11:
				wantErr(t, what+": Mark", x.l.Mark(b), x.p.Mark(b))
			case kind == 11:
				x.store(func(s *store.Store) { s.Plan(n, keep) })
			case kind == 12 && next(&seed)%3 == 0:
				x.store(func(s *store.Store) { s.Fail(keep) })
			case kind == 13:
				x.store(func(s *store.Store) { s.Power() })
			case meddling:
				x.meddle(&seed)
			}
			x.want(t, what)
			if !x.s.On() && next(&seed)%2 == 0 {
				x.store(func(s *store.Store) { s.Power() })
			}
		}
	}
}

// R3

// scribble writes over a list, and over the room behind its end.
func scribble(b []byte) {
	b = b[:cap(b)]
	for i := range b {
		b[i] = '!'
	}
}

func TestWhatIsHandedInIsNotKeptOrChanged(t *testing.T) {
	s := store.New(10000)
	l := begun(t, s, 1000)
	for n, call := range []func([]byte) api.Errno{l.Add, l.Add, l.Mark, l.Add, l.Add} {
		whole := []byte("abcdefgh" + strings.Repeat("-", 30))
		wantErr(t, "the call", call(whole[2:5]), api.OK)
		wantSame(t, fmt.Sprintf("what call %d was given", n), string(whole), "abcdefgh"+strings.Repeat("-", 30))
		scribble(whole)
	}
	adds(t, l, "x")
	wantErr(t, "Flush", l.Flush(), api.OK)
	wantOpen(t, "scribbled over", s, 100, "cde", "cde", "cde", "x")
}

func TestWhatOpenTellsIsNewMemory(t *testing.T) {
	files := []string{"check", checkOf(1, "check"), "log.1", sealsOf("one", "", "two"), "log.2", sealsOf("three", "four")}
	s := laid(t, 10000, files...)
	before := held(s)
	want := []string{"one", "", "two", "three", "four"}
	for at := -1; at < len(want); at++ {
		_, check, records, _ := Open(s, 100)
		_, otherCheck, otherRecords, _ := Open(s, 100)
		told := [][]byte{check}
		told = append(told, records...)
		scribble(told[at+1])
		for i, b := range told {
			if i != at+1 {
				wantSame(t, "another list of the answer", string(b), append([]string{"check"}, want...)[i])
			}
		}
		wantSame(t, "another answer", string(otherCheck), "check")
		wantSame(t, "another answer", texts(otherRecords), want)
		// The list of lists too.
		records = records[:cap(records)]
		for i := range records {
			records[i] = nil
		}
		wantSame(t, "another answer", texts(otherRecords), want)
		wantSame(t, "the store", held(s), before)
	}
}

func TestWhatWasToldDoesNotChange(t *testing.T) {
	s := laid(t, 10000, "check", checkOf(1, "check"), "log.1", sealsOf("one", "two"))
	l, check, records, _ := Open(s, 10)
	whole := string(check[:cap(check)])
	parts := l.Parts()
	spare := fmt.Sprint(parts[:cap(parts)])
	flushed(t, l, "three", "four")
	marked(t, l, "five")
	flushed(t, l, "six")
	wantSame(t, "the checkpoint", string(check[:cap(check)]), whole)
	wantSame(t, "the records", texts(records), []string{"one", "two"})
	wantSame(t, "Parts", fmt.Sprint(parts[:cap(parts)]), spare)
	first, second := l.Parts(), l.Parts()
	for i := range first[:cap(first)] {
		first[:cap(first)][i] = 77
	}
	wantSame(t, "Parts", second, []int{3, 4})
	wantSame(t, "Parts", l.Parts(), []int{3, 4})
}

// R4

func TestNothingHangsOnAMapsOrder(t *testing.T) {
	run := func() string {
		s, out := store.New(3000), ""
		l, _, _, _ := Open(s, 20)
		for i := range 40 {
			out += fmt.Sprint(l.Add([]byte(fmt.Sprint("record ", i))), l.Flush(), l.Parts())
			if i == 15 || i == 39 {
				s.Plan(7+i/10, 3)
				out += fmt.Sprint(l.Mark([]byte("check")))
				s.Power()
				var check []byte
				var records [][]byte
				var err api.Errno
				l, check, records, err = Open(s, 20)
				out += fmt.Sprintf("%q %q %v", check, records, err)
			}
		}
		return out + told(s)
	}
	want := run()
	for range 30 {
		wantSame(t, "the same calls", run(), want)
	}
}

func TestLedgersAreApart(t *testing.T) {
	a, b := store.New(1000), store.New(1000)
	l, m := begun(t, a, 100), begun(t, b, 100)
	adds(t, l, "a")
	wantSame(t, "Pending of the other one", m.Pending(), 0)
	b.Fail(0)
	wantErr(t, "the one without power", m.Flush(), api.ErrDark)
	wantErr(t, "the other one", l.Flush(), api.OK)
	wantOpen(t, "the other one", a, 100, "", "a")
}

// R5

func TestLedgersThatNoCallMade(t *testing.T) {
	_, _, _, err := Open(store.New(3), 100)
	wantErr(t, "Open without room", err, api.ErrSpace)
	none, _, _, _ := Open(nil, 100)
	for what, l := range map[string]*Ledger{"nil": nil, "the zero value": {}, "new's": new(Ledger), "Open's of nothing": none} {
		for range 2 {
			for _, b := range [][]byte{nil, {}, []byte("x"), make([]byte, limit+1)} {
				wantErr(t, what+": Add", l.Add(b), api.ErrUnmade)
				wantErr(t, what+": Mark", l.Mark(b), api.ErrUnmade)
			}
			wantErr(t, what+": Flush", l.Flush(), api.ErrUnmade)
			wantSame(t, what+": Pending", l.Pending(), 0)
			wantSame(t, what+": Parts", len(l.Parts()), 0)
		}
		if l != nil && fmt.Sprintf("%+v", *l) != fmt.Sprintf("%+v", Ledger{}) {
			t.Errorf("%s has changed: %+v", what, *l)
		}
	}
}
