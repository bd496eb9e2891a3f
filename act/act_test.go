package act

import (
	"bytes"
	"encoding/binary"
	"fmt"
	"math"
	"math/rand"
	"reflect"
	"regexp"
	"slices"
	"strings"
	"testing"

	"staith/api"
)

// What the chapter says, told anew: the limits stand here once more, so that others of the program's are seen.
var (
	nameForm = regexp.MustCompile(`\A[a-z0-9_-]{1,20}\z`)
	keyForm  = regexp.MustCompile(`\A([a-z0-9_-]+(\.[a-z0-9_-]+){0,11})?\z`)
)

func isName(s string) bool { return nameForm.MatchString(s) }

func isKey(s string) bool { return len(s) <= 60 && keyForm.MatchString(s) }

func isMessage(m api.Message) bool {
	if m.Ident.Origin < 1 || m.Ident.Origin > 8 || m.Ident.Seq == 0 || m.Hop < 0 || m.Hop > 8 {
		return false
	}
	return isName(m.Exchange) && isKey(m.Key) && len(m.Body) <= 200
}

// named are the fields of an act that a kind of 1 to 12 names.
var named = [13][]string{
	1:  {"Name", "N"},
	2:  {"Name"},
	3:  {"Exchange"},
	4:  {"Name"},
	5:  {"Binding"},
	6:  {"Binding"},
	7:  {"Message"},
	8:  {"Name"},
	9:  {"Name", "Tag"},
	10: {"Name", "Tag"},
	11: {"To", "N"},
	12: {},
}

// fieldGood: may a field that is named be as it is?
func fieldGood(a api.Act, field string) bool {
	switch field {
	case "Name":
		return isName(a.Name)
	case "N":
		return a.N >= 1 && (a.Kind == 1 && a.N <= 1000 || a.Kind == 11 && a.N <= 200)
	case "Tag":
		return a.Tag != 0
	case "To":
		return a.To >= 1 && a.To <= 8
	case "Exchange":
		return isName(a.Exchange.Name) && a.Exchange.Kind >= 1 && a.Exchange.Kind <= 3
	case "Binding":
		return isName(a.Binding.Exchange) && isName(a.Binding.Queue) && len(a.Binding.Pattern) <= 60
	case "Message":
		return isMessage(a.Message)
	}
	panic(field)
}

func isAct(a api.Act) bool {
	if a.Kind < 1 || a.Kind > 12 {
		return false
	}
	v := reflect.ValueOf(a)
	for i := range v.NumField() {
		field := v.Type().Field(i).Name
		switch {
		case field == "Kind":
		case slices.Contains(named[a.Kind], field):
			if !fieldGood(a, field) {
				return false
			}
		case !v.Field(i).IsZero():
			return false
		}
	}
	return true
}

func textBytes(b []byte, s string) []byte {
	if len(s) > 65535 {
		s = s[:65535]
	}
	return append(binary.BigEndian.AppendUint16(b, uint16(len(s))), s...)
}

func messageBytes(m api.Message) []byte {
	b := binary.BigEndian.AppendUint64([]byte{byte(m.Ident.Origin)}, m.Ident.Seq)
	b = append(b, byte(m.Hop))
	return textBytes(textBytes(textBytes(b, m.Exchange), m.Key), m.Body)
}

// actBytes are those of a kind of 1 to 12, whether the act is good or not.
func actBytes(a api.Act) []byte {
	b := []byte{byte(a.Kind)}
	for _, field := range named[a.Kind] {
		switch field {
		case "Name":
			b = textBytes(b, a.Name)
		case "N":
			b = binary.BigEndian.AppendUint16(b, uint16(a.N))
		case "Tag":
			b = binary.BigEndian.AppendUint64(b, a.Tag)
		case "To":
			b = append(b, byte(a.To))
		case "Exchange":
			b = append(textBytes(b, a.Exchange.Name), byte(a.Exchange.Kind), 0)
			if a.Exchange.Federated {
				b[len(b)-1] = 1
			}
		case "Binding":
			b = textBytes(textBytes(textBytes(b, a.Binding.Exchange), a.Binding.Queue), a.Binding.Pattern)
		case "Message":
			b = append(b, messageBytes(a.Message)...)
		}
	}
	return b
}

// manyBytes are those of acts of kinds 1 to 12, however many, and good or not.
func manyBytes(l ...api.Act) []byte {
	b := binary.BigEndian.AppendUint16(nil, uint16(len(l)))
	for _, a := range l {
		b = textBytes(b, string(actBytes(a)))
	}
	return b
}

// counted takes the text that bytes begin with; ok is false, if there is none.
func counted(b []byte) (s string, rest []byte, ok bool) {
	if len(b) < 2 {
		return "", nil, false
	}
	n := int(b[0])<<8 + int(b[1])
	if len(b)-2 < n {
		return "", nil, false
	}
	return string(b[2 : 2+n]), b[2+n:], true
}

// texts are the n texts that bytes begin with.
func texts(b []byte, n int) (l []string, rest []byte, ok bool) {
	for range n {
		var s string
		if s, b, ok = counted(b); !ok {
			return nil, nil, false
		}
		l = append(l, s)
	}
	return l, b, true
}

// messageOf is what ReadMessage must answer.
func messageOf(b []byte) (api.Message, int) {
	if len(b) < 10 {
		return api.Message{}, 0
	}
	l, rest, ok := texts(b[10:], 3)
	if !ok {
		return api.Message{}, 0
	}
	m := api.Message{Ident: api.Ident{Origin: int(b[0]), Seq: binary.BigEndian.Uint64(b[1:])}, Hop: int(b[9]), Exchange: l[0], Key: l[1], Body: l[2]}
	if !isMessage(m) {
		return api.Message{}, 0
	}
	return m, len(b) - len(rest)
}

// guess is an act of which b may be the bytes, if it is that of any.
func guess(b []byte) (a api.Act) {
	if len(b) == 0 {
		return a
	}
	a.Kind = int(b[0])
	b = b[1:]
	one, behind, _ := texts(b, 1)
	three, _, _ := texts(b, 3)
	switch a.Kind {
	case 1, 2, 4, 8, 9, 10:
		if one == nil {
			return api.Act{}
		}
		a.Name = one[0]
		if a.Kind == 1 && len(behind) == 2 {
			a.N = int(binary.BigEndian.Uint16(behind))
		}
		if a.Kind > 8 && len(behind) == 8 {
			a.Tag = binary.BigEndian.Uint64(behind)
		}
	case 3:
		if len(behind) != 2 {
			return api.Act{}
		}
		a.Exchange = api.Exchange{Name: one[0], Kind: int(behind[0]), Federated: behind[1] == 1}
	case 5, 6:
		if three == nil {
			return api.Act{}
		}
		a.Binding = api.Binding{Exchange: three[0], Queue: three[1], Pattern: three[2]}
	case 7:
		a.Message, _ = messageOf(b)
	case 11:
		if len(b) != 3 {
			return api.Act{}
		}
		a.To, a.N = int(b[0]), int(binary.BigEndian.Uint16(b[1:]))
	}
	return a
}

// actOf is what Read must answer: a guess that is a good act, and whose bytes they are.
func actOf(b []byte) (api.Act, api.Errno) {
	if a := guess(b); isAct(a) && bytes.Equal(actBytes(a), b) {
		return a, api.OK
	}
	return api.Act{}, api.ErrDamage
}

// manyOf is what ReadMany must answer.
func manyOf(b []byte) ([]api.Act, api.Errno) {
	if len(b) < 2 || int(b[0])<<8+int(b[1]) > 60000 {
		return nil, api.ErrDamage
	}
	l, rest, ok := texts(b[2:], int(b[0])<<8+int(b[1]))
	if len(b) == 2 && b[0] == 0 && b[1] == 0 {
		return nil, api.OK
	}
	if !ok || len(rest) > 0 {
		return nil, api.ErrDamage
	}
	var acts []api.Act
	for _, s := range l {
		a, err := actOf([]byte(s))
		if err != api.OK {
			return nil, api.ErrDamage
		}
		acts = append(acts, a)
	}
	return acts, api.OK
}

// brief is what a failure tells of something, which may be very long.
func brief(x any) string {
	s := fmt.Sprintf("%+v", x)
	if len(s) > 400 {
		return s[:400] + ".."
	}
	return s
}

func wantGood(t *testing.T, what string, a api.Act, want bool) {
	t.Helper()
	if isAct(a) != want {
		t.Fatalf("%s: the test's own answer of %s is not %v", what, brief(a), want)
	}
	if got := Good(a); got != want {
		t.Fatalf("%s: Good(%s): %v, want %v", what, brief(a), got, want)
	}
	b := []byte(nil)
	if want {
		b = actBytes(a)
	}
	if got := Bytes(a); !bytes.Equal(got, b) {
		t.Fatalf("%s: Bytes(%s): %s, want %s", what, brief(a), brief(got), brief(b))
	}
}

func wantGoodMessage(t *testing.T, what string, m api.Message, want bool) {
	t.Helper()
	if isMessage(m) != want {
		t.Fatalf("%s: the test's own answer of %s is not %v", what, brief(m), want)
	}
	if got := GoodMessage(m); got != want {
		t.Fatalf("%s: GoodMessage(%s): %v, want %v", what, brief(m), got, want)
	}
	wantGood(t, what, api.Act{Kind: api.ActEnter, Message: m}, want)
}

func wantRead(t *testing.T, what string, b []byte) {
	t.Helper()
	a, err := actOf(b)
	if got, e := Read(b); got != a || e != err {
		t.Fatalf("%s: Read(%s): %s, %v; want %s, %v", what, brief(b), brief(got), e, brief(a), err)
	}
}

func wantReadMessage(t *testing.T, what string, b []byte) {
	t.Helper()
	m, n := messageOf(b)
	if got, size := ReadMessage(b); got != m || size != n {
		t.Fatalf("%s: ReadMessage(%s): %s, %d; want %s, %d", what, brief(b), brief(got), size, brief(m), n)
	}
}

func wantReadMany(t *testing.T, what string, b []byte) {
	t.Helper()
	l, err := manyOf(b)
	if got, e := ReadMany(b); !slices.Equal(got, l) || e != err {
		t.Fatalf("%s: ReadMany(%s): %s, %v; want %s, %v", what, brief(b), brief(got), e, brief(l), err)
	}
}

// wantDamage holds that bytes are those of no act, and of no list of acts.
func wantDamage(t *testing.T, what string, b []byte) {
	t.Helper()
	if a, err := Read(b); a != (api.Act{}) || err != api.ErrDamage {
		t.Fatalf("%s: Read(%s): %s, %v; want damage", what, brief(b), brief(a), err)
	}
}

func wantManyDamage(t *testing.T, what string, b []byte) {
	t.Helper()
	if l, err := ReadMany(b); len(l) != 0 || err != api.ErrDamage {
		t.Fatalf("%s: ReadMany(%s): %s, %v; want damage", what, brief(b), brief(l), err)
	}
}

func wantNoMessage(t *testing.T, what string, b []byte) {
	t.Helper()
	if m, n := ReadMessage(b); m != (api.Message{}) || n != 0 {
		t.Fatalf("%s: ReadMessage(%s): %s, %d; want none", what, brief(b), brief(m), n)
	}
}

const allSigns = "abcdefghijklmnopqrstuvwxyz0123456789-_"

// twelve is a key of 12 words.
const twelve = "a.b.c.d.e.f.g.h.i.j.k.l"

var (
	goodNames = []string{"q", "a", "z", "0", "9", "-", "_", allSigns[:20], allSigns[18:], strings.Repeat("x", 19), strings.Repeat("x", 20)}
	badNames  = []string{"", "A", "Q", ".", "*", "#", "a.b", " ", "q ", " q", "q\n", "q\x00", "\x00", "é", "\xff", "\x80q", "`", "{", "/", ":", "^", ",", strings.Repeat("x", 21), strings.Repeat("x", 277), strings.Repeat("x", 70000)}
	goodKeys  = []string{"", "a", "a.b", "-._", twelve, strings.Repeat("k", 60), strings.Repeat("k", 30) + "." + strings.Repeat("k", 29)}
	badKeys   = []string{".", "a.", ".a", "a..b", "*", "#", "a.*", "A", "a b", "\xff", "é", twelve + ".m", strings.Repeat("k", 61), strings.Repeat("k", 30) + "." + strings.Repeat("k", 30), strings.Repeat("k", 70000)}
	goodTexts = []string{"", "b", "\x00", "\xff\xfe\x80", "A é *.#\n", strings.Repeat("b", 199), strings.Repeat("b", 200), strings.Repeat("\x00", 200), strings.Repeat("é", 100)}
	badTexts  = []string{strings.Repeat("b", 201), strings.Repeat("é", 101), strings.Repeat("é", 100) + "b", strings.Repeat("b", 256), strings.Repeat("b", 65536), strings.Repeat("b", 65736)}
	goodForms = []string{"", "#", "a.*", "a", "A", "..", "\x00", "\xff", " ", "a.b.c.d.e.f.g.h.i.j.k.l.m.n", strings.Repeat("*", 59), strings.Repeat("*", 60), strings.Repeat("é", 30)}
	badForms  = []string{strings.Repeat("*", 61), strings.Repeat("a", 61), strings.Repeat("é", 31), strings.Repeat("é", 30) + "a", strings.Repeat("a", 200), strings.Repeat("a", 65536), strings.Repeat("a", 65540)}

	badInts = []int{math.MinInt, math.MinInt + 1, -1 << 32, -65536, -65535, -256, -255, -1, 65536, 65537, 1<<32 + 1, math.MaxInt - 1, math.MaxInt}
	tags    = []uint64{1, 2, 255, 256, 1<<32 - 1, 1 << 32, 1<<63 - 1, 1 << 63, math.MaxUint64 - 1, math.MaxUint64}
)

func message() api.Message {
	return api.Message{Ident: api.Ident{Origin: 1, Seq: 2}, Hop: 3, Exchange: "x", Key: "a.b", Body: "hi"}
}

// samples is a good act of each kind, in their order.
func samples() []api.Act {
	return []api.Act{
		{Kind: api.ActQueue, Name: "q", N: 258},
		{Kind: api.ActNoQueue, Name: "q"},
		{Kind: api.ActExchange, Exchange: api.Exchange{Name: "x", Kind: api.Topic, Federated: true}},
		{Kind: api.ActNoEx, Name: "x"},
		{Kind: api.ActBind, Binding: api.Binding{Exchange: "x", Queue: "q", Pattern: "a.#"}},
		{Kind: api.ActUnbind, Binding: api.Binding{Exchange: "x", Queue: "q", Pattern: "a.#"}},
		{Kind: api.ActEnter, Message: message()},
		{Kind: api.ActGive, Name: "q"},
		{Kind: api.ActAck, Name: "q", Tag: 1<<56 + 2},
		{Kind: api.ActBack, Name: "q", Tag: 3},
		{Kind: api.ActSent, To: 2, N: 3},
		{Kind: api.ActBoot},
	}
}

// edges are good acts of all kinds, with all that they name at its ends and between.
func edges() []api.Act {
	l := samples()
	for _, name := range goodNames {
		for _, kind := range []int{api.ActNoQueue, api.ActNoEx, api.ActGive} {
			l = append(l, api.Act{Kind: kind, Name: name})
		}
		for _, n := range []int{1, 2, 200, 201, 255, 256, 999, 1000} {
			l = append(l, api.Act{Kind: api.ActQueue, Name: name, N: n})
		}
		for _, tag := range tags {
			l = append(l, api.Act{Kind: api.ActAck, Name: name, Tag: tag}, api.Act{Kind: api.ActBack, Name: name, Tag: tag})
		}
		for kind := 1; kind <= 3; kind++ {
			for _, federated := range []bool{false, true} {
				l = append(l, api.Act{Kind: api.ActExchange, Exchange: api.Exchange{Name: name, Kind: kind, Federated: federated}})
			}
		}
		for _, pattern := range goodForms {
			one := api.Binding{Exchange: name, Queue: "q", Pattern: pattern}
			two := api.Binding{Exchange: "x", Queue: name, Pattern: pattern}
			l = append(l, api.Act{Kind: api.ActBind, Binding: one}, api.Act{Kind: api.ActUnbind, Binding: two})
			l = append(l, api.Act{Kind: api.ActBind, Binding: two}, api.Act{Kind: api.ActUnbind, Binding: one})
		}
	}
	for to := 1; to <= 8; to++ {
		for _, n := range []int{1, 2, 199, 200} {
			l = append(l, api.Act{Kind: api.ActSent, To: to, N: n})
		}
	}
	for _, m := range goodMessages() {
		l = append(l, api.Act{Kind: api.ActEnter, Message: m})
	}
	return l
}

func goodMessages() []api.Message {
	var l []api.Message
	for origin := 1; origin <= 8; origin++ {
		for hop := 0; hop <= 8; hop++ {
			for _, seq := range tags {
				l = append(l, api.Message{Ident: api.Ident{Origin: origin, Seq: seq}, Hop: hop, Exchange: "x"})
			}
		}
	}
	for _, name := range goodNames {
		for _, key := range goodKeys {
			for _, body := range goodTexts {
				l = append(l, api.Message{Ident: api.Ident{Origin: 8, Seq: 77}, Exchange: name, Key: key, Body: body})
			}
		}
	}
	return l
}

// badMessages are messages of each of which one thing is wrong.
func badMessages() []api.Message {
	var l []api.Message
	with := func(change func(m *api.Message)) {
		m := message()
		change(&m)
		l = append(l, m)
	}
	for _, n := range append([]int{0, 9, 10, 255, 256, 257, 264}, badInts...) {
		with(func(m *api.Message) { m.Ident.Origin = n })
	}
	for _, n := range append([]int{9, 10, 255, 256, 257, 264}, badInts...) {
		with(func(m *api.Message) { m.Hop = n })
	}
	with(func(m *api.Message) { m.Ident.Seq = 0 })
	for _, s := range badNames {
		with(func(m *api.Message) { m.Exchange = s })
	}
	for _, s := range badKeys {
		with(func(m *api.Message) { m.Key = s })
	}
	for _, s := range badTexts {
		with(func(m *api.Message) { m.Body = s })
	}
	return append(l, api.Message{})
}

// badActs are acts of all kinds, of each of which one thing that its kind names is wrong.
func badActs() []api.Act {
	var l []api.Act
	for _, a := range samples() {
		if slices.Contains(named[a.Kind], "Name") {
			for _, s := range badNames {
				b := a
				b.Name = s
				l = append(l, b)
			}
		}
		if slices.Contains(named[a.Kind], "Tag") {
			b := a
			b.Tag = 0
			l = append(l, b)
		}
	}
	for _, n := range append([]int{0, 1001, 1002, 1256, 65535}, badInts...) {
		l = append(l, api.Act{Kind: api.ActQueue, Name: "q", N: n})
	}
	for _, n := range append([]int{0, 201, 202, 256, 257, 1000, 65535}, badInts...) {
		l = append(l, api.Act{Kind: api.ActSent, To: 2, N: n})
	}
	for _, n := range append([]int{0, 9, 10, 255, 256, 257}, badInts...) {
		l = append(l, api.Act{Kind: api.ActSent, To: n, N: 3})
	}
	for _, n := range append([]int{0, 4, 5, 255, 256, 257}, badInts...) {
		l = append(l, api.Act{Kind: api.ActExchange, Exchange: api.Exchange{Name: "x", Kind: n}})
	}
	for _, s := range badNames {
		l = append(l, api.Act{Kind: api.ActExchange, Exchange: api.Exchange{Name: s, Kind: api.Fanout, Federated: true}})
	}
	for _, kind := range []int{api.ActBind, api.ActUnbind} {
		for _, s := range badNames {
			l = append(l, api.Act{Kind: kind, Binding: api.Binding{Exchange: s, Queue: "q"}}, api.Act{Kind: kind, Binding: api.Binding{Exchange: "x", Queue: s}})
		}
		for _, s := range badForms {
			l = append(l, api.Act{Kind: kind, Binding: api.Binding{Exchange: "x", Queue: "q", Pattern: s}})
		}
	}
	for _, m := range badMessages() {
		l = append(l, api.Act{Kind: api.ActEnter, Message: m})
	}
	return l
}

// leaves calls each with a way to every plain field of an act but its Kind.
func leaves(a *api.Act, each func(name, top string, v reflect.Value)) {
	var walk func(name, top string, v reflect.Value)
	walk = func(name, top string, v reflect.Value) {
		if v.Kind() != reflect.Struct {
			each(name, top, v)
			return
		}
		for i := range v.NumField() {
			field := v.Type().Field(i).Name
			walk(name+"."+field, top, v.Field(i))
		}
	}
	whole := reflect.ValueOf(a).Elem()
	for i := range whole.NumField() {
		if field := whole.Type().Field(i).Name; field != "Kind" {
			walk(field, field, whole.Field(i))
		}
	}
}

// fill sets a plain field to something that is not zero, and might be good.
func fill(v reflect.Value) {
	switch v.Kind() {
	case reflect.Int:
		v.SetInt(1)
	case reflect.Uint64:
		v.SetUint(1)
	case reflect.String:
		v.SetString("q")
	case reflect.Bool:
		v.SetBool(true)
	default:
		panic(v.Kind())
	}
}

// P13.1

func TestGoodOfAllThatMayBe(t *testing.T) {
	for _, a := range edges() {
		wantGood(t, "good", a, true)
	}
}

func TestGoodMessageOfAllThatMayBe(t *testing.T) {
	for _, m := range goodMessages() {
		wantGoodMessage(t, "good", m, true)
	}
}

func TestGoodMessageOfWhatMayNotBe(t *testing.T) {
	for _, m := range badMessages() {
		wantGoodMessage(t, "bad", m, false)
	}
}

func TestGoodOfWhatMayNotBe(t *testing.T) {
	for _, a := range badActs() {
		wantGood(t, "bad", a, false)
	}
}

func TestGoodOfKindsThatAreNone(t *testing.T) {
	for _, kind := range append([]int{0, 13, 14, 128, 255, 256, 257, 264, 268}, badInts...) {
		wantGood(t, "no kind, nothing named", api.Act{Kind: kind}, false)
		for _, a := range samples() {
			a.Kind = kind
			wantGood(t, "no kind", a, false)
		}
	}
	wantGood(t, "zero", api.Act{}, false)
}

func TestGoodOfAnotherKind(t *testing.T) {
	for _, a := range samples() {
		was := a.Kind
		for kind := 1; kind <= 12; kind++ {
			a.Kind = kind
			wantGood(t, "another kind", a, slices.Equal(named[kind], named[was]))
		}
	}
	// The two counts have limits of their own.
	wantGood(t, "a queue's", api.Act{Kind: api.ActQueue, Name: "q", N: 201}, true)
	wantGood(t, "a link's", api.Act{Kind: api.ActSent, To: 1, N: 201}, false)
}

func TestWhatIsNotNamedIsZero(t *testing.T) {
	for _, a := range samples() {
		count := 0
		leaves(&a, func(name, top string, v reflect.Value) {
			if slices.Contains(named[a.Kind], top) {
				return
			}
			count++
			was := reflect.ValueOf(v.Interface())
			fill(v)
			wantGood(t, name, a, false)
			v.Set(was)
			wantGood(t, name+" zero again", a, true)
		})
		if count == 0 {
			t.Fatalf("kind %d names all", a.Kind)
		}
	}
	// Not even what would be good by itself.
	for _, a := range samples() {
		for _, b := range samples() {
			with := a
			from, to := reflect.ValueOf(b), reflect.ValueOf(&with).Elem()
			more := false
			for _, field := range named[b.Kind] {
				if !slices.Contains(named[a.Kind], field) {
					to.FieldByName(field).Set(from.FieldByName(field))
					more = true
				}
			}
			wantGood(t, "two kinds in one", with, !more)
		}
	}
}

func TestAllThatIsNamedMustBeThere(t *testing.T) {
	for _, a := range samples() {
		for _, field := range named[a.Kind] {
			b := a
			reflect.ValueOf(&b).Elem().FieldByName(field).SetZero()
			wantGood(t, field, b, false)
		}
	}
}

func TestWhatMayBeEmpty(t *testing.T) {
	m := message()
	m.Hop, m.Key, m.Body = 0, "", ""
	wantGoodMessage(t, "hop 0, no key, no body", m, true)
	wantGood(t, "no pattern", api.Act{Kind: api.ActBind, Binding: api.Binding{Exchange: "x", Queue: "q"}}, true)
	wantGood(t, "not federated", api.Act{Kind: api.ActExchange, Exchange: api.Exchange{Name: "x", Kind: api.Direct}}, true)
}

func TestEachSignOfNames(t *testing.T) {
	for c := range 256 {
		s := string([]byte{byte(c)})
		is := strings.Contains(allSigns, s)
		wantGood(t, "a name", api.Act{Kind: api.ActGive, Name: s}, is)
		wantGood(t, "an exchange", api.Act{Kind: api.ActExchange, Exchange: api.Exchange{Name: s, Kind: api.Direct}}, is)
		wantGood(t, "a binding's exchange", api.Act{Kind: api.ActUnbind, Binding: api.Binding{Exchange: s, Queue: "q"}}, is)
		wantGood(t, "a binding's queue", api.Act{Kind: api.ActBind, Binding: api.Binding{Exchange: "x", Queue: s}}, is)
		wantGood(t, "a pattern", api.Act{Kind: api.ActBind, Binding: api.Binding{Exchange: "x", Queue: "q", Pattern: s}}, true)
		m := message()
		m.Exchange = s
		wantGoodMessage(t, "a message's exchange", m, is)
		m = message()
		m.Key = s
		wantGoodMessage(t, "a key", m, is)
		m = message()
		m.Body = s
		wantGoodMessage(t, "a body", m, true)
	}
}

// P13.2

func TestTheBytesOfEachKind(t *testing.T) {
	l := samples()
	for i, want := range [][]byte{
		{1, 0, 1, 'q', 1, 2},
		{2, 0, 1, 'q'},
		{3, 0, 1, 'x', 3, 1},
		{4, 0, 1, 'x'},
		{5, 0, 1, 'x', 0, 1, 'q', 0, 3, 'a', '.', '#'},
		{6, 0, 1, 'x', 0, 1, 'q', 0, 3, 'a', '.', '#'},
		{7, 1, 0, 0, 0, 0, 0, 0, 0, 2, 3, 0, 1, 'x', 0, 3, 'a', '.', 'b', 0, 2, 'h', 'i'},
		{8, 0, 1, 'q'},
		{9, 0, 1, 'q', 1, 0, 0, 0, 0, 0, 0, 2},
		{10, 0, 1, 'q', 0, 0, 0, 0, 0, 0, 0, 3},
		{11, 2, 0, 3},
		{12},
	} {
		if got := Bytes(l[i]); !bytes.Equal(got, want) {
			t.Errorf("Bytes(%+v): %v, want %v", l[i], got, want)
		}
		if a, err := Read(want); a != l[i] || err != api.OK {
			t.Errorf("Read(%v): %+v, %v; want %+v", want, a, err, l[i])
		}
	}
}

func TestTheBytesAtTheirEnds(t *testing.T) {
	for _, c := range []struct {
		a    api.Act
		want []byte
	}{
		{api.Act{Kind: api.ActExchange, Exchange: api.Exchange{Name: "ab", Kind: api.Direct}}, []byte{3, 0, 2, 'a', 'b', 1, 0}},
		{api.Act{Kind: api.ActBind, Binding: api.Binding{Exchange: "x", Queue: "q"}}, []byte{5, 0, 1, 'x', 0, 1, 'q', 0, 0}},
		{api.Act{Kind: api.ActQueue, Name: "q", N: 1000}, []byte{1, 0, 1, 'q', 3, 232}},
		{api.Act{Kind: api.ActSent, To: 8, N: 200}, []byte{11, 8, 0, 200}},
		{api.Act{Kind: api.ActAck, Name: "-_", Tag: math.MaxUint64}, []byte{9, 0, 2, '-', '_', 255, 255, 255, 255, 255, 255, 255, 255}},
		{api.Act{Kind: api.ActGive, Name: strings.Repeat("z", 20)}, append([]byte{8, 0, 20}, strings.Repeat("z", 20)...)},
	} {
		if got := Bytes(c.a); !bytes.Equal(got, c.want) {
			t.Errorf("Bytes(%+v): %v, want %v", c.a, got, c.want)
		}
	}
	m := api.Message{Ident: api.Ident{Origin: 8, Seq: math.MaxUint64}, Hop: 8, Exchange: strings.Repeat("x", 20), Key: strings.Repeat("k", 60), Body: strings.Repeat("b", 200)}
	if n := len(Bytes(api.Act{Kind: api.ActEnter, Message: m})); n != 297 {
		t.Errorf("the longest act has %d bytes, want 297", n)
	}
}

func TestMessageBytesOfGoodOnes(t *testing.T) {
	for _, m := range goodMessages() {
		b := messageBytes(m)
		if got := MessageBytes(m); !bytes.Equal(got, b) {
			t.Fatalf("MessageBytes(%+v): %v, want %v", m, got, b)
		}
		if got, n := ReadMessage(b); got != m || n != len(b) {
			t.Fatalf("ReadMessage(%v): %+v, %d; want %+v, %d", b, got, n, m, len(b))
		}
	}
}

func TestMessageBytesOfAnyMessage(t *testing.T) {
	if got, want := MessageBytes(api.Message{}), make([]byte, 16); !bytes.Equal(got, want) {
		t.Errorf("MessageBytes of a zero one: %v, want %v", got, want)
	}
	for _, m := range badMessages() {
		if got, want := MessageBytes(m), messageBytes(m); !bytes.Equal(got, want) {
			t.Fatalf("MessageBytes(%s): %s, want %s", brief(m), brief(got), brief(want))
		}
	}
}

func TestMessageBytesCutsNumbers(t *testing.T) {
	for _, c := range []struct {
		n    int
		want byte
	}{{0, 0}, {9, 9}, {255, 255}, {256, 0}, {257, 1}, {65537, 1}, {-1, 255}, {-255, 1}, {-256, 0}, {math.MaxInt, 255}, {math.MinInt, 0}, {math.MinInt + 7, 7}} {
		b := MessageBytes(api.Message{Ident: api.Ident{Origin: c.n}})
		if len(b) != 16 || b[0] != c.want {
			t.Errorf("Origin %d: %v, want %d", c.n, b, c.want)
		}
		b = MessageBytes(api.Message{Hop: c.n})
		if len(b) != 16 || b[9] != c.want {
			t.Errorf("Hop %d: %v, want %d", c.n, b, c.want)
		}
	}
}

func TestMessageBytesCutsTexts(t *testing.T) {
	for _, n := range []int{0, 1, 255, 256, 257, 65534, 65535, 65536, 65537, 131071, 200000} {
		long := strings.Repeat("abc", n/3+1)[:n]
		cut := long[:min(n, 65535)]
		for i, m := range []api.Message{{Exchange: long, Key: "k", Body: "b"}, {Exchange: "x", Key: long, Body: "b"}, {Exchange: "x", Key: "k", Body: long}} {
			want := make([]byte, 10)
			for k, s := range []string{"x", "k", "b"} {
				if k == i {
					s = cut
				}
				want = append(append(want, byte(len(s)>>8), byte(len(s))), s...)
			}
			if got := MessageBytes(m); !bytes.Equal(got, want) {
				t.Errorf("text %d of %d bytes: %d bytes, want %d", i, n, len(got), len(want))
			}
		}
	}
}

func TestReadOfFewBytes(t *testing.T) {
	wantDamage(t, "nil", nil)
	wantDamage(t, "empty", []byte{})
	for c := range 256 {
		b := []byte{byte(c)}
		if a, err := Read(b); (err == api.OK) != (c == api.ActBoot) || err == api.OK && a != (api.Act{Kind: api.ActBoot}) {
			t.Errorf("Read(%v): %+v, %v", b, a, err)
		}
		for d := range 256 {
			wantDamage(t, "two bytes", []byte{byte(c), byte(d)})
		}
	}
}

func TestReadOfWhatIsCutOrHasMore(t *testing.T) {
	for _, a := range edges() {
		b := actBytes(a)
		for n := range b {
			wantDamage(t, "cut", b[:n])
		}
		for _, more := range [][]byte{{0}, {1}, {255}, {0, 0}, b} {
			wantDamage(t, "more behind", slices.Concat(b, more))
		}
		wantRead(t, "more ahead", slices.Concat([]byte{byte(a.Kind)}, b))
	}
}

func TestReadOfBytesOfActsThatAreNotGood(t *testing.T) {
	for _, a := range badActs() {
		b := actBytes(a)
		// Numbers that were cut may be good ones: then it is the act with those that is read.
		want, err := actOf(b)
		if err == api.OK && want == a {
			t.Fatalf("%s is good", brief(a))
		}
		wantRead(t, "bad", b)
	}
}

func TestReadOfAYesThatIsNone(t *testing.T) {
	for c := range 256 {
		b := []byte{3, 0, 1, 'x', 1, byte(c)}
		a, err := Read(b)
		want := api.Act{Kind: api.ActExchange, Exchange: api.Exchange{Name: "x", Kind: api.Direct, Federated: c == 1}}
		if c > 1 {
			wantDamage(t, "no yes or no", b)
			wantManyDamage(t, "no yes or no", slices.Concat([]byte{0, 1, 0, 6}, b))
		} else if a != want || err != api.OK {
			t.Errorf("Read(%v): %+v, %v; want %+v", b, a, err, want)
		}
	}
}

func TestReadWithEachByteChanged(t *testing.T) {
	for _, a := range samples() {
		whole := actBytes(a)
		for i := range whole {
			for c := range 256 {
				b := bytes.Clone(whole)
				b[i] = byte(c)
				wantRead(t, "one byte changed", b)
			}
		}
	}
}

func TestReadOfAllNumbers(t *testing.T) {
	for n := range 65536 {
		count := binary.BigEndian.AppendUint16(nil, uint16(n))
		for _, b := range [][]byte{slices.Concat([]byte{1, 0, 1, 'q'}, count), slices.Concat([]byte{11, 5}, count)} {
			a, err := Read(b)
			most := 1000
			if b[0] == 11 {
				most = 200
			}
			if is := n >= 1 && n <= most; is != (err == api.OK) || is && a.N != n || !is && a != (api.Act{}) {
				t.Fatalf("Read(%v): %+v, %v", b, a, err)
			}
		}
	}
	wantDamage(t, "no tag", []byte{9, 0, 1, 'q', 0, 0, 0, 0, 0, 0, 0, 0})
	wantDamage(t, "no tag", []byte{10, 0, 1, 'q', 0, 0, 0, 0, 0, 0, 0, 0})
}

func TestReadOfCountsThatAreTooGreat(t *testing.T) {
	for _, count := range []int{2, 3, 20, 21, 255, 256, 32767, 32768, 65535} {
		head := []byte{byte(count >> 8), byte(count)}
		wantDamage(t, "a name", slices.Concat([]byte{8}, head, []byte("q")))
		wantDamage(t, "a name with much behind", slices.Concat([]byte{8}, head, bytes.Repeat([]byte("q"), 70000)))
		wantDamage(t, "a pattern", slices.Concat([]byte{5, 0, 1, 'x', 0, 1, 'q'}, head, []byte("a")))
		wantNoMessage(t, "a body", slices.Concat([]byte{1, 0, 0, 0, 0, 0, 0, 0, 1, 0, 0, 1, 'x', 0, 0}, head, []byte("b")))
	}
	// The count is that of the bytes, the highest first.
	wantDamage(t, "the lowest first", []byte{8, 1, 0, 'q'})
}

func TestReadOfAllShortBytes(t *testing.T) {
	signs := []byte{0, 1, 2, 3, 8, 11, 12, 'q', 'Q'}
	var all func(b []byte, n int)
	all = func(b []byte, n int) {
		wantRead(t, "short", b)
		wantReadMany(t, "short", b)
		if n == 0 {
			return
		}
		for _, c := range signs {
			all(append(b, c), n-1)
		}
	}
	all(make([]byte, 0, 6), 6)
}

func TestReadMessageTellsHowManyBytes(t *testing.T) {
	for _, m := range goodMessages() {
		b := messageBytes(m)
		for _, more := range [][]byte{nil, {0}, {255}, {1, 2, 3}, b, make([]byte, 100)} {
			if got, n := ReadMessage(slices.Concat(b, more)); got != m || n != len(b) {
				t.Fatalf("ReadMessage with %d more: %+v, %d; want %+v, %d", len(more), got, n, m, len(b))
			}
		}
	}
}

func TestReadMessageOfWhatIsCut(t *testing.T) {
	for i, m := range goodMessages() {
		if i%7 != 0 {
			continue
		}
		b := messageBytes(m)
		for n := range b {
			wantNoMessage(t, "cut", b[:n])
		}
	}
	wantNoMessage(t, "nil", nil)
	wantNoMessage(t, "empty", []byte{})
	wantNoMessage(t, "noughts", make([]byte, 100))
}

func TestReadMessageOfBytesOfBadOnes(t *testing.T) {
	for _, m := range badMessages() {
		wantReadMessage(t, "bad", messageBytes(m))
		wantReadMessage(t, "bad, more behind", append(messageBytes(m), 1, 2, 3))
	}
}

func TestReadMessageWithEachByteChanged(t *testing.T) {
	whole := append(messageBytes(message()), 0, 1, 'b', 0, 0, 'c')
	for i := range whole {
		for c := range 256 {
			b := bytes.Clone(whole)
			b[i] = byte(c)
			wantReadMessage(t, "one byte changed", b)
		}
	}
}

// P13.3

func TestManyOfFew(t *testing.T) {
	give := api.Act{Kind: api.ActGive, Name: "q"}
	sent := api.Act{Kind: api.ActSent, To: 2, N: 3}
	boot := api.Act{Kind: api.ActBoot}
	for _, c := range []struct {
		l    []api.Act
		want []byte
	}{
		{nil, []byte{0, 0}},
		{[]api.Act{}, []byte{0, 0}},
		{[]api.Act{boot}, []byte{0, 1, 0, 1, 12}},
		{[]api.Act{give}, []byte{0, 1, 0, 4, 8, 0, 1, 113}},
		{[]api.Act{give, sent}, []byte{0, 2, 0, 4, 8, 0, 1, 113, 0, 4, 11, 2, 0, 3}},
		{[]api.Act{sent, boot, give}, []byte{0, 3, 0, 4, 11, 2, 0, 3, 0, 1, 12, 0, 4, 8, 0, 1, 113}},
		{[]api.Act{boot, boot}, []byte{0, 2, 0, 1, 12, 0, 1, 12}},
	} {
		if got := Many(c.l); !bytes.Equal(got, c.want) {
			t.Errorf("Many(%+v): %v, want %v", c.l, got, c.want)
		}
		if got, err := ReadMany(c.want); !slices.Equal(got, c.l) || err != api.OK {
			t.Errorf("ReadMany(%v): %+v, %v; want %+v", c.want, got, err, c.l)
		}
	}
}

func TestManyOfAllKinds(t *testing.T) {
	l := edges()
	for _, n := range []int{1, 2, 12, 255, 256, 257, len(l)} {
		b := manyBytes(l[:n]...)
		if got := Many(l[:n]); !bytes.Equal(got, b) {
			t.Errorf("Many of %d: %d bytes, want %d", n, len(got), len(b))
		}
		if got, err := ReadMany(b); !slices.Equal(got, l[:n]) || err != api.OK {
			t.Errorf("ReadMany of %d: %d, %v", n, len(got), err)
		}
	}
	// An act whose count has two bytes: 297 of them.
	m := api.Message{Ident: api.Ident{Origin: 8, Seq: 1}, Exchange: strings.Repeat("x", 20), Key: strings.Repeat("k", 60), Body: strings.Repeat("b", 200)}
	if b := Many([]api.Act{{Kind: api.ActEnter, Message: m}}); len(b) != 301 || b[2] != 1 || b[3] != 41 {
		t.Errorf("Many of a long one: %v", b)
	}
}

func TestManyOfOneThatIsNotGood(t *testing.T) {
	for _, bad := range append(badActs(), api.Act{}, api.Act{Kind: 13}, api.Act{Kind: api.ActBoot, N: 1}) {
		for at := range 4 {
			l := slices.Insert(samples()[:3], at, bad)
			if b := Many(l); len(b) != 0 {
				t.Fatalf("Many with %s at %d: %s, want nothing", brief(bad), at, brief(b))
			}
		}
		if b := Many([]api.Act{bad}); len(b) != 0 {
			t.Fatalf("Many of %s: %s, want nothing", brief(bad), brief(b))
		}
	}
}

func TestManyAtTheLimit(t *testing.T) {
	l := make([]api.Act, 65537)
	for i := range l {
		l[i] = samples()[i%12]
	}
	for _, n := range []int{59999, 60000} {
		b := Many(l[:n])
		if !bytes.Equal(b, manyBytes(l[:n]...)) {
			t.Errorf("Many of %d: %d bytes", n, len(b))
		}
		if got, err := ReadMany(b); !slices.Equal(got, l[:n]) || err != api.OK {
			t.Errorf("ReadMany of %d: %d, %v", n, len(got), err)
		}
	}
	for _, n := range []int{60001, 60002, 65535, 65536, 65537} {
		if b := Many(l[:n]); len(b) != 0 {
			t.Errorf("Many of %d: %d bytes, want nothing", n, len(b))
		}
	}
	for _, n := range []int{60001, 60002, 65535} {
		wantManyDamage(t, "more than may be", manyBytes(l[:n]...))
		wantManyDamage(t, "a count of them alone", []byte{byte(n >> 8), byte(n)})
	}
	l[59999] = api.Act{}
	if b := Many(l[:60000]); len(b) != 0 {
		t.Errorf("Many with the last one bad: %d bytes, want nothing", len(b))
	}
}

func TestReadManyOfWhatIsCutOrHasMore(t *testing.T) {
	wantManyDamage(t, "nil", nil)
	wantManyDamage(t, "empty", []byte{})
	whole := manyBytes(samples()...)
	for n := range whole {
		wantManyDamage(t, "cut", whole[:n])
	}
	for _, more := range [][]byte{{0}, {0, 0}, {0, 1, 12}, whole} {
		wantManyDamage(t, "more behind", slices.Concat(whole, more))
		wantManyDamage(t, "more behind none", slices.Concat([]byte{0, 0}, more))
	}
}

func TestReadManyOfOtherCounts(t *testing.T) {
	for _, b := range [][]byte{
		{0, 0, 0, 1, 12},
		{0, 2, 0, 1, 12},
		{1, 1, 0, 1, 12},
		{1, 0, 0, 1, 12},
		{255, 255, 0, 1, 12},
		{0, 1, 0, 0},
		{0, 1, 0, 0, 12},
		{0, 1, 0, 2, 12},
		{0, 1, 0, 2, 12, 12},
		{0, 1, 1, 1, 12},
		{0, 1, 255, 255, 12},
		{0, 2, 0, 1, 12, 0, 0},
		{0, 2, 0, 0, 0, 1, 12},
		{0, 2, 0, 2, 12, 12},
		{0, 1, 0, 1, 13},
		{0, 1, 0, 1, 0},
		{0, 1, 0, 5, 8, 0, 1, 113, 0},
		{0, 1, 0, 3, 8, 0, 1, 113},
		{0, 2, 0, 3, 8, 0, 1, 0, 1, 12},
		{0, 2, 0, 1, 12, 0, 4, 8, 0, 1, 'Q'},
		{0, 2, 0, 4, 8, 0, 1, 'Q', 0, 1, 12},
	} {
		wantManyDamage(t, "counts", b)
	}
}

func TestReadManyWithEachByteChanged(t *testing.T) {
	whole := manyBytes(samples()...)
	for i := range whole {
		for c := range 256 {
			b := bytes.Clone(whole)
			b[i] = byte(c)
			wantReadMany(t, "one byte changed", b)
		}
	}
}

func TestReadManyOfBytesOfActsThatAreNotGood(t *testing.T) {
	for _, a := range badActs() {
		for at := range 3 {
			wantReadMany(t, "one is bad", manyBytes(slices.Insert(samples()[:2], at, a)...))
		}
	}
}

// P13.4

// someAct is any good act.
func someAct(r *rand.Rand) api.Act {
	text := func(from string, most int) string {
		b := make([]byte, r.Intn(most+1))
		for i := range b {
			b[i] = from[r.Intn(len(from))]
		}
		return string(b)
	}
	name := func() string { return "n" + text(allSigns, 19) }
	signs := "\x00\xff\x80 aé.#*"
	a := api.Act{Kind: 1 + r.Intn(12)}
	for _, field := range named[a.Kind] {
		switch field {
		case "Name":
			a.Name = name()
		case "N":
			a.N = 1 + r.Intn(200)
		case "Tag":
			a.Tag = 1 + r.Uint64()>>r.Intn(64)
		case "To":
			a.To = 1 + r.Intn(8)
		case "Exchange":
			a.Exchange = api.Exchange{Name: name(), Kind: 1 + r.Intn(3), Federated: r.Intn(2) == 1}
		case "Binding":
			a.Binding = api.Binding{Exchange: name(), Queue: name(), Pattern: text(signs, 60)}
		case "Message":
			id := api.Ident{Origin: 1 + r.Intn(8), Seq: 1 + r.Uint64()>>1>>r.Intn(63)}
			a.Message = api.Message{Ident: id, Hop: r.Intn(9), Exchange: name(), Body: text(signs, 200)}
			for range r.Intn(5) {
				a.Message.Key += "k" + text(allSigns, 9) + "."
			}
			a.Message.Key += "k"
		}
	}
	return a
}

func TestReadingUndoesWriting(t *testing.T) {
	for _, a := range edges() {
		if got, err := Read(Bytes(a)); got != a || err != api.OK {
			t.Fatalf("Read of Bytes of %+v: %+v, %v", a, got, err)
		}
		m := a.Message
		if got, n := ReadMessage(MessageBytes(m)); isMessage(m) && (got != m || n != len(messageBytes(m))) {
			t.Fatalf("ReadMessage of MessageBytes of %+v: %+v, %d", m, got, n)
		}
	}
	r := rand.New(rand.NewSource(13))
	for range 3000 {
		l := make([]api.Act, r.Intn(8))
		for i := range l {
			l[i] = someAct(r)
			wantGood(t, "any", l[i], true)
			if got, err := Read(Bytes(l[i])); got != l[i] || err != api.OK {
				t.Fatalf("Read of Bytes of %+v: %+v, %v", l[i], got, err)
			}
		}
		if got, err := ReadMany(Many(l)); !slices.Equal(got, l) || err != api.OK {
			t.Fatalf("ReadMany of Many of %+v: %+v, %v", l, got, err)
		}
	}
}

func TestNoTwoActsHaveTheSameBytes(t *testing.T) {
	was := map[string]api.Act{}
	for _, a := range edges() {
		b := string(Bytes(a))
		if other, is := was[b]; is && other != a {
			t.Fatalf("%+v and %+v have the same bytes", a, other)
		}
		was[b] = a
	}
}

func TestWritingUndoesReading(t *testing.T) {
	r := rand.New(rand.NewSource(31))
	for range 60000 {
		l := []api.Act{someAct(r), someAct(r), someAct(r)}
		one, many, m := actBytes(l[0]), manyBytes(l...), messageBytes(l[1].Message)
		one, many, m = meddled(r, one), meddled(r, many), meddled(r, m)
		wantRead(t, "meddled", one)
		wantReadMany(t, "meddled", many)
		wantReadMessage(t, "meddled", m)
		if a, err := Read(one); err == api.OK && !bytes.Equal(Bytes(a), one) {
			t.Fatalf("Bytes of Read of %v are others", one)
		}
		if acts, err := ReadMany(many); err == api.OK && !bytes.Equal(Many(acts), many) {
			t.Fatalf("Many of ReadMany of %v are others", many)
		}
		if got, n := ReadMessage(m); n > 0 && !bytes.Equal(MessageBytes(got), m[:n]) {
			t.Fatalf("MessageBytes of ReadMessage of %v are others", m)
		}
	}
}

// meddled is bytes with a few of them changed, taken out, or put in.
func meddled(r *rand.Rand, b []byte) []byte {
	b = bytes.Clone(b)
	for range r.Intn(3) {
		at := r.Intn(len(b) + 1)
		switch r.Intn(4) {
		case 0:
			b = slices.Insert(b, at, byte(r.Intn(256)))
		case 1:
			b = b[:at]
		case 2:
			b = slices.Delete(b, at, min(at+1, len(b)))
		case 3:
			if at < len(b) {
				b[at] += byte(r.Intn(5) - 2)
			}
		}
	}
	return b
}

// R3

// roomy is b with other bytes in the room behind its end, and the whole of that room.
func roomy(b []byte) (list, room []byte) {
	room = append(bytes.Clone(b), bytes.Repeat([]byte{0xaa}, 64)...)
	return room[:len(b)], room
}

func scribble(b []byte) {
	b = b[:cap(b)]
	for i := range b {
		b[i] ^= 0x5f
	}
}

func TestNothingThatIsGivenIsChangedOrKept(t *testing.T) {
	for _, a := range samples() {
		b, room := roomy(actBytes(a))
		was := bytes.Clone(room)
		got, _ := Read(b)
		if !bytes.Equal(room, was) {
			t.Errorf("Read changed %v to %v", was, room)
		}
		scribble(room)
		if got != a {
			t.Errorf("what Read told was changed from outside: %+v", got)
		}
	}

	b, room := roomy(messageBytes(message()))
	was := bytes.Clone(room)
	m, _ := ReadMessage(b)
	if !bytes.Equal(room, was) {
		t.Errorf("ReadMessage changed %v to %v", was, room)
	}
	scribble(room)
	if m != message() {
		t.Errorf("what ReadMessage told was changed from outside: %+v", m)
	}

	b, room = roomy(manyBytes(samples()...))
	was = bytes.Clone(room)
	l, _ := ReadMany(b)
	if !bytes.Equal(room, was) {
		t.Errorf("ReadMany changed %v to %v", was, room)
	}
	scribble(room)
	if !slices.Equal(l, samples()) {
		t.Errorf("what ReadMany told was changed from outside: %+v", l)
	}
}

func TestManyLeavesItsList(t *testing.T) {
	room := append(samples(), samples()...)
	was := slices.Clone(room)
	b := Many(room[:12])
	if !slices.Equal(room, was) {
		t.Error("Many changed its list, or the room behind it")
	}
	clear(room)
	if !bytes.Equal(b, manyBytes(samples()...)) {
		t.Error("what Many told was changed from outside")
	}
}

func TestTheRoomBehindIsNotLookedAt(t *testing.T) {
	b := actBytes(samples()[4])
	for n := range b {
		wantDamage(t, "the rest in the room behind", b[:n:len(b)])
	}
	b = messageBytes(message())
	for n := range b {
		wantNoMessage(t, "the rest in the room behind", b[:n:len(b)])
	}
	b = manyBytes(samples()...)
	for n := range b {
		wantManyDamage(t, "the rest in the room behind", b[:n:len(b)])
	}
}

func TestAnswersShareNoMemory(t *testing.T) {
	for _, a := range samples() {
		one, two := Bytes(a), Bytes(a)
		scribble(one)
		if !bytes.Equal(two, actBytes(a)) {
			t.Errorf("two answers of Bytes of %+v share memory", a)
		}
	}
	one, two := MessageBytes(message()), MessageBytes(message())
	scribble(one)
	if !bytes.Equal(two, messageBytes(message())) {
		t.Error("two answers of MessageBytes share memory")
	}
	one, two = Many(samples()), Many(samples())
	scribble(one)
	if !bytes.Equal(two, manyBytes(samples()...)) {
		t.Error("two answers of Many share memory")
	}
	b := manyBytes(samples()...)
	l, _ := ReadMany(b)
	other, _ := ReadMany(b)
	clear(l[:cap(l)])
	if !slices.Equal(other, samples()) {
		t.Error("two answers of ReadMany share memory")
	}
}

// P1: no call panics, and each ends, at arguments of any size.

func TestGreatArguments(t *testing.T) {
	huge := strings.Repeat("a", 1<<24)
	wantGood(t, "a huge name", api.Act{Kind: api.ActGive, Name: huge}, false)
	wantGood(t, "a huge name that is not named", api.Act{Kind: api.ActBoot, Name: huge}, false)
	m := api.Message{Exchange: huge, Key: huge, Body: huge}
	if b := MessageBytes(m); len(b) != 10+3*(2+65535) {
		t.Errorf("MessageBytes of huge texts: %d bytes", len(b))
	}
	for c := range 256 {
		b := bytes.Repeat([]byte{byte(c)}, 1<<18)
		wantDamage(t, "the same byte often", b)
		wantManyDamage(t, "the same byte often", b)
		wantNoMessage(t, "the same byte often", b)
	}
	if b := Many(make([]api.Act, 1<<20)); len(b) != 0 {
		t.Errorf("Many of 2^20: %d bytes", len(b))
	}
}
