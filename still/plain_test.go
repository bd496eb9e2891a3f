package still

import (
	"encoding/binary"
	"math"
	"slices"
	"testing"

	"staith/api"
	"staith/state"
)

const top = math.MaxUint64

// What the chapter says, told anew without the layers below: how parts stand in bytes, and which parts bytes tell.

func plainText(s string) []byte {
	if len(s) > 65535 {
		s = s[:65535]
	}
	return append(binary.BigEndian.AppendUint16(nil, uint16(len(s))), s...)
}

func plainYes(is bool) byte {
	if is {
		return 1
	}
	return 0
}

func plainMessage(m api.Message) []byte {
	b := []byte{byte(m.Ident.Origin)}
	b = binary.BigEndian.AppendUint64(b, m.Ident.Seq)
	b = append(b, byte(m.Hop))
	return slices.Concat(b, plainText(m.Exchange), plainText(m.Key), plainText(m.Body))
}

func plainCount(b []byte, n int) []byte { return binary.BigEndian.AppendUint32(b, uint32(n)) }

func plainItems(b []byte, l []api.Item) []byte {
	b = plainCount(b, len(l))
	for _, item := range l {
		b = binary.BigEndian.AppendUint64(b, item.Tag)
		b = append(b, plainMessage(item.Message)...)
		b = append(b, plainYes(item.Again))
	}
	return b
}

// plainBytes are those of any parts, whether there is a state with them or not.
func plainBytes(p state.Parts) []byte {
	b := binary.BigEndian.AppendUint64(nil, p.Seq)
	b = binary.BigEndian.AppendUint64(b, p.Boots)
	b = plainCount(b, len(p.Exchanges))
	for _, x := range p.Exchanges {
		b = append(b, plainText(x.Name)...)
		b = append(b, byte(x.Kind), plainYes(x.Federated))
	}
	b = plainCount(b, len(p.Bindings))
	for _, x := range p.Bindings {
		b = append(b, slices.Concat(plainText(x.Exchange), plainText(x.Queue), plainText(x.Pattern))...)
	}
	b = plainCount(b, len(p.Queues))
	for _, q := range p.Queues {
		b = append(b, plainText(q.Name)...)
		b = binary.BigEndian.AppendUint16(b, uint16(q.Most))
		b = binary.BigEndian.AppendUint64(b, q.Next)
		b = plainItems(plainItems(b, q.Ready), q.Out)
	}
	b = plainCount(b, len(p.Seen))
	for _, s := range p.Seen {
		b = plainCount(append(b, byte(s.Origin)), len(s.Ranges))
		for _, r := range s.Ranges {
			b = binary.BigEndian.AppendUint64(b, r.Lo)
			b = binary.BigEndian.AppendUint64(b, r.Hi)
		}
	}
	b = plainCount(b, len(p.Links))
	for _, l := range p.Links {
		b = plainCount(append(b, byte(l.To)), len(l.Messages))
		for _, m := range l.Messages {
			b = append(b, plainMessage(m)...)
		}
	}
	return b
}

// scan tells what bytes say, and panics with itself where they say nothing.
type scan struct {
	b  []byte
	at int
}

func (s *scan) next(n int) []byte {
	if n > len(s.b)-s.at {
		panic(s)
	}
	s.at += n
	return s.b[s.at-n : s.at]
}

func (s *scan) one() int { return int(s.next(1)[0]) }

func (s *scan) two() int { return int(binary.BigEndian.Uint16(s.next(2))) }

func (s *scan) four() int { return int(binary.BigEndian.Uint32(s.next(4))) }

func (s *scan) eight() uint64 { return binary.BigEndian.Uint64(s.next(8)) }

func (s *scan) text() string { return string(s.next(s.two())) }

func (s *scan) yes() bool {
	n := s.one()
	if n > 1 {
		panic(s)
	}
	return n == 1
}

func (s *scan) message() api.Message {
	m := api.Message{}
	m.Ident.Origin = s.one()
	m.Ident.Seq = s.eight()
	m.Hop = s.one()
	m.Exchange = s.text()
	m.Key = s.text()
	m.Body = s.text()
	return m
}

func (s *scan) items() []api.Item {
	var l []api.Item
	for n := s.four(); n > 0; n-- {
		item := api.Item{Tag: s.eight()}
		item.Message = s.message()
		item.Again = s.yes()
		l = append(l, item)
	}
	return l
}

func (s *scan) parts() state.Parts {
	p := state.Parts{}
	p.Seq = s.eight()
	p.Boots = s.eight()
	for n := s.four(); n > 0; n-- {
		x := api.Exchange{Name: s.text()}
		x.Kind = s.one()
		x.Federated = s.yes()
		p.Exchanges = append(p.Exchanges, x)
	}
	for n := s.four(); n > 0; n-- {
		x := api.Binding{Exchange: s.text()}
		x.Queue = s.text()
		x.Pattern = s.text()
		p.Bindings = append(p.Bindings, x)
	}
	for n := s.four(); n > 0; n-- {
		q := state.QueuePart{Name: s.text()}
		q.Most = s.two()
		q.Next = s.eight()
		q.Ready = s.items()
		q.Out = s.items()
		p.Queues = append(p.Queues, q)
	}
	for n := s.four(); n > 0; n-- {
		seen := state.SeenPart{Origin: s.one()}
		for k := s.four(); k > 0; k-- {
			r := api.Range{Lo: s.eight()}
			r.Hi = s.eight()
			seen.Ranges = append(seen.Ranges, r)
		}
		p.Seen = append(p.Seen, seen)
	}
	for n := s.four(); n > 0; n-- {
		l := state.LinkPart{To: s.one()}
		for k := s.four(); k > 0; k-- {
			l.Messages = append(l.Messages, s.message())
		}
		p.Links = append(p.Links, l)
	}
	return p
}

// plainRead: the parts that bytes are of; false, if they are of none.
func plainRead(b []byte) (p state.Parts, ok bool) {
	s := &scan{b: b}
	defer func() {
		if why := recover(); why != nil && why != any(s) {
			panic(why)
		}
	}()
	p = s.parts()
	return p, s.at == len(b)
}

func sameQueue(a, b state.QueuePart) bool {
	return a.Name == b.Name && a.Most == b.Most && a.Next == b.Next && slices.Equal(a.Ready, b.Ready) && slices.Equal(a.Out, b.Out)
}

// sameParts: are they alike? No list and an empty one are the same.
func sameParts(a, b state.Parts) bool {
	if a.Seq != b.Seq || a.Boots != b.Boots || !slices.Equal(a.Exchanges, b.Exchanges) || !slices.Equal(a.Bindings, b.Bindings) {
		return false
	}
	return slices.EqualFunc(a.Queues, b.Queues, sameQueue) &&
		slices.EqualFunc(a.Seen, b.Seen, func(a, b state.SeenPart) bool {
			return a.Origin == b.Origin && slices.Equal(a.Ranges, b.Ranges)
		}) &&
		slices.EqualFunc(a.Links, b.Links, func(a, b state.LinkPart) bool {
			return a.To == b.To && slices.Equal(a.Messages, b.Messages)
		})
}

// wantParts holds a state's Parts against others.
func wantParts(t *testing.T, what string, s *state.State, want state.Parts) {
	t.Helper()
	if got := s.Parts(); !sameParts(got, want) {
		t.Fatalf("%s: Parts:\n%+v\nwant\n%+v", what, got, want)
	}
}
