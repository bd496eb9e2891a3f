package packet

import (
	"bytes"
	"encoding/binary"
	"fmt"
	"math"
	"reflect"
	"regexp"
	"slices"
	"strings"
	"testing"

	"staith/api"
)

// What the chapter says, told anew without the layers below: the limits stand here once more, so that others of the program's are seen.
var (
	nameForm = regexp.MustCompile(`\A[a-z0-9_-]{1,20}\z`)
	keyForm  = regexp.MustCompile(`\A([a-z0-9_-]+(\.[a-z0-9_-]+){0,11})?\z`)
)

func isMessage(m api.Message) bool {
	if m.Ident.Origin < 1 || m.Ident.Origin > 8 || m.Ident.Seq == 0 || m.Hop < 0 || m.Hop > 8 {
		return false
	}
	return nameForm.MatchString(m.Exchange) && len(m.Key) <= 60 && keyForm.MatchString(m.Key) && len(m.Body) <= 200
}

// named are the fields of a packet that a kind of 1 to 4 names, beside From and To.
var named = [5][]string{
	1: {"Epoch"},
	2: {"Epoch"},
	3: {"Epoch", "Num", "Message"},
	4: {"Epoch", "Num", "Mask"},
}

// names are the kinds' own.
var names = [5]string{1: "hello", 2: "welcome", 3: "data", 4: "ack"}

func isPacket(p api.Packet) bool {
	if p.Kind < 1 || p.Kind > 4 || p.From < 1 || p.From > 8 || p.To < 1 || p.To > 8 || p.From == p.To {
		return false
	}
	v := reflect.ValueOf(p)
	for i := range v.NumField() {
		field := v.Type().Field(i).Name
		must := field == "Kind" || field == "From" || field == "To" || slices.Contains(named[p.Kind], field)
		if !must && !v.Field(i).IsZero() {
			return false
		}
	}
	if p.Epoch == 0 && p.Kind != 2 {
		return false
	}
	return p.Kind != 3 || isMessage(p.Message)
}

func textBytes(b []byte, s string) []byte {
	return append(binary.BigEndian.AppendUint16(b, uint16(len(s))), s...)
}

func messageBytes(b []byte, m api.Message) []byte {
	b = binary.BigEndian.AppendUint64(append(b, byte(m.Ident.Origin)), m.Ident.Seq)
	b = append(b, byte(m.Hop))
	return textBytes(textBytes(textBytes(b, m.Exchange), m.Key), m.Body)
}

// contentOf is what is sealed of a packet, whether it is good or not.
func contentOf(p api.Packet) []byte {
	b := binary.BigEndian.AppendUint64([]byte{byte(p.Kind), byte(p.From), byte(p.To)}, p.Epoch)
	switch p.Kind {
	case 3:
		return messageBytes(binary.BigEndian.AppendUint16(b, p.Num), p.Message)
	case 4:
		return binary.BigEndian.AppendUint64(binary.BigEndian.AppendUint16(b, p.Num), p.Mask)
	}
	return b
}

// sum is seal's, bit by bit.
func sum(b []byte) uint32 {
	rest := uint32(math.MaxUint32)
	for i := range 8 * len(b) {
		other := rest>>31 != uint32(b[i/8]>>(7-i%8)&1)
		rest <<= 1
		if other {
			rest ^= 0x741b8cd7
		}
	}
	return rest
}

// sealed is a content between its count and the sum.
func sealed(content []byte) []byte {
	return withCount(len(content), content)
}

// withCount is a content between any count and the sum of both.
func withCount(count int, content []byte) []byte {
	b := append(binary.BigEndian.AppendUint32(nil, uint32(count)), content...)
	return binary.BigEndian.AppendUint32(b, sum(b))
}

// bytesOf are a packet's, good or not.
func bytesOf(p api.Packet) []byte {
	return sealed(contentOf(p))
}

// texts are the three texts that bytes begin with, or fewer.
func texts(b []byte) [3]string {
	var l [3]string
	for i := range l {
		if len(b) < 2 || len(b)-2 < int(binary.BigEndian.Uint16(b)) {
			return l
		}
		n := int(binary.BigEndian.Uint16(b))
		l[i], b = string(b[2:2+n]), b[2+n:]
	}
	return l
}

// guess is a packet of which b may be the bytes, if they are those of any.
func guess(b []byte) api.Packet {
	if len(b) < 19 {
		return api.Packet{}
	}
	c := b[4 : len(b)-4]
	p := api.Packet{Kind: int(c[0]), From: int(c[1]), To: int(c[2]), Epoch: binary.BigEndian.Uint64(c[3:])}
	if c = c[11:]; len(c) < 10 {
		return p
	}
	switch p.Kind {
	case 3:
		p.Num, c = binary.BigEndian.Uint16(c), c[2:]
		if len(c) < 10 {
			return p
		}
		l := texts(c[10:])
		id := api.Ident{Origin: int(c[0]), Seq: binary.BigEndian.Uint64(c[1:])}
		p.Message = api.Message{Ident: id, Hop: int(c[9]), Exchange: l[0], Key: l[1], Body: l[2]}
	case 4:
		p.Num, p.Mask = binary.BigEndian.Uint16(c), binary.BigEndian.Uint64(c[2:])
	}
	return p
}

// packetOf is what Read must answer: a guess that is a good packet, and whose bytes they are.
func packetOf(b []byte) (api.Packet, api.Errno) {
	if p := guess(b); isPacket(p) && bytes.Equal(bytesOf(p), b) {
		return p, api.OK
	}
	return api.Packet{}, api.ErrDamage
}

// brief is what a failure tells of something, which may be very long.
func brief(x any) string {
	s := fmt.Sprintf("%+v", x)
	if len(s) > 400 {
		return s[:400] + ".."
	}
	return s
}

// wantGood asks all that the package tells of a packet.
func wantGood(t *testing.T, what string, p api.Packet, want bool) {
	t.Helper()
	if isPacket(p) != want {
		t.Fatalf("%s: the test's own answer of %s is not %v", what, brief(p), want)
	}
	if got := Good(p); got != want {
		t.Fatalf("%s: Good(%s): %v, want %v", what, brief(p), got, want)
	}
	name := ""
	if p.Kind >= 1 && p.Kind <= 4 {
		name = names[p.Kind]
	}
	if got := Kind(p); got != name {
		t.Fatalf("%s: Kind(%s): %q, want %q", what, brief(p), got, name)
	}
	if got := Bytes(p); !want && len(got) != 0 {
		t.Fatalf("%s: Bytes(%s): %s, want nothing", what, brief(p), brief(got))
	} else if want && !bytes.Equal(got, bytesOf(p)) {
		t.Fatalf("%s: Bytes(%s): %s, want %s", what, brief(p), brief(got), brief(bytesOf(p)))
	}
}

func wantRead(t *testing.T, what string, b []byte) {
	t.Helper()
	p, err := packetOf(b)
	if got, e := Read(b); got != p || e != err {
		t.Fatalf("%s: Read(%s): %s, %v; want %s, %v", what, brief(b), brief(got), e, brief(p), err)
	}
}

// wantDamage holds that bytes are those of no packet.
func wantDamage(t *testing.T, what string, b []byte) {
	t.Helper()
	if p, err := Read(b); p != (api.Packet{}) || err != api.ErrDamage {
		t.Fatalf("%s: Read(%s): %s, %v; want damage", what, brief(b), brief(p), err)
	}
}

const (
	allSigns = "abcdefghijklmnopqrstuvwxyz0123456789-_"

	// twelve is a key of 12 words.
	twelve = "a.b.c.d.e.f.g.h.i.j.k.l"
)

var (
	goodNames = []string{"q", "0", "-", "_", allSigns[:20], allSigns[18:], strings.Repeat("x", 20)}
	badNames  = []string{"", "A", ".", "*", "a.b", " ", "q ", "q\n", "\x00", "é", "\xff", strings.Repeat("x", 21), strings.Repeat("x", 70000)}
	goodKeys  = []string{"", "a", "a.b", "-._", twelve, strings.Repeat("k", 60)}
	badKeys   = []string{".", "a.", ".a", "a..b", "*", "#", "A", "a b", "\xff", twelve + ".m", strings.Repeat("k", 61), strings.Repeat("k", 70000)}
	goodTexts = []string{"", "b", "\x00", "\xff\xfe\x80", "A é *.#\n", strings.Repeat("b", 200), strings.Repeat("é", 100)}
	badTexts  = []string{strings.Repeat("b", 201), strings.Repeat("é", 101), strings.Repeat("b", 256), strings.Repeat("b", 65536), strings.Repeat("b", 65736)}

	// badInts are neither kinds, nor sites, nor counts of edges.
	badInts = []int{math.MinInt, math.MinInt + 1, -1 << 32, -65535, -256, -255, -1, 9, 10, 128, 255, 256, 257, 264, 65537, 1<<32 + 1, math.MaxInt - 1, math.MaxInt}
	wides   = []uint64{1, 2, 255, 256, 65535, 65536, 1<<32 - 1, 1 << 32, 1<<63 - 1, 1 << 63, math.MaxUint64 - 1, math.MaxUint64}
	nums    = []uint16{0, 1, 2, 255, 256, 32767, 32768, 65534, 65535}
)

func message() api.Message {
	return api.Message{Ident: api.Ident{Origin: 1, Seq: 2}, Hop: 3, Exchange: "x", Key: "a.b", Body: "hi"}
}

// longest is the message that has the most bytes.
func longest() api.Message {
	return api.Message{Ident: api.Ident{Origin: 8, Seq: math.MaxUint64}, Hop: 8, Exchange: strings.Repeat("x", 20), Key: strings.Repeat("k", 60), Body: strings.Repeat("b", 200)}
}

// samples is a good packet of each kind, in their order.
func samples() []api.Packet {
	return []api.Packet{
		{Kind: api.PackHello, From: 1, To: 2, Epoch: 5},
		{Kind: api.PackWelcome, From: 2, To: 1, Epoch: 5},
		{Kind: api.PackData, From: 3, To: 8, Epoch: 1<<56 + 2, Num: 258, Message: message()},
		{Kind: api.PackAck, From: 8, To: 3, Epoch: 6, Num: 65535, Mask: 1<<63 + 1},
	}
}

// goodMessages are messages that may be, with all that they have at its ends and between.
func goodMessages() []api.Message {
	l := []api.Message{message(), longest()}
	for origin := 1; origin <= 8; origin++ {
		for hop := 0; hop <= 8; hop++ {
			l = append(l, api.Message{Ident: api.Ident{Origin: origin, Seq: wides[(origin+hop)%len(wides)]}, Hop: hop, Exchange: "x"})
		}
	}
	for _, name := range goodNames {
		for _, key := range goodKeys {
			for _, body := range goodTexts {
				l = append(l, api.Message{Ident: api.Ident{Origin: 8, Seq: 77}, Exchange: name, Key: key, Body: body})
			}
		}
	}
	return l
}

// badMessages are messages of each of which one thing is wrong.
func badMessages() []api.Message {
	l := []api.Message{{}}
	with := func(change func(m *api.Message)) {
		m := message()
		change(&m)
		l = append(l, m)
	}
	with(func(m *api.Message) { m.Ident.Origin = 0 })
	with(func(m *api.Message) { m.Ident.Seq = 0 })
	for _, n := range badInts {
		with(func(m *api.Message) { m.Ident.Origin = n })
		with(func(m *api.Message) { m.Hop = n })
	}
	for _, s := range badNames {
		with(func(m *api.Message) { m.Exchange = s })
	}
	for _, s := range badKeys {
		with(func(m *api.Message) { m.Key = s })
	}
	for _, s := range badTexts {
		with(func(m *api.Message) { m.Body = s })
	}
	return l
}

// edges are good packets of all kinds, with all that they name at its ends and between.
func edges() []api.Packet {
	l := append(samples(), api.Packet{Kind: api.PackWelcome, From: 1, To: 2})
	for _, p := range samples() {
		for p.From = 1; p.From <= 8; p.From++ {
			for p.To = 1; p.To <= 8; p.To++ {
				if p.From != p.To {
					l = append(l, p)
				}
			}
		}
	}
	for _, p := range samples() {
		for _, p.Epoch = range wides {
			l = append(l, p)
		}
	}
	for _, num := range nums {
		l = append(l, api.Packet{Kind: api.PackData, From: 1, To: 2, Epoch: 1, Num: num, Message: message()})
		for _, mask := range append(wides, 0) {
			l = append(l, api.Packet{Kind: api.PackAck, From: 1, To: 2, Epoch: 1, Num: num, Mask: mask})
		}
	}
	for _, m := range goodMessages() {
		l = append(l, api.Packet{Kind: api.PackData, From: 1, To: 2, Epoch: 1, Message: m})
	}
	return l
}

// badPackets are packets of all kinds, of each of which one thing that its kind names is wrong.
func badPackets() []api.Packet {
	var l []api.Packet
	for _, p := range samples() {
		same := p
		for n := 1; n <= 8; n++ {
			same.From, same.To = n, n
			l = append(l, same)
		}
		for _, n := range append(badInts, 0) {
			from, to := p, p
			from.From, to.To = n, n
			l = append(l, from, to)
		}
		if p.Kind != api.PackWelcome {
			p.Epoch = 0
			l = append(l, p)
		}
	}
	for _, m := range badMessages() {
		l = append(l, api.Packet{Kind: api.PackData, From: 1, To: 2, Epoch: 1, Message: m})
	}
	return l
}
