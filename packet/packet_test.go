package packet

import (
	"bytes"
	"math"
	"math/rand"
	"reflect"
	"slices"
	"strings"
	"testing"

	"staith/api"
)

// P19.1

func TestGoodOfAllThatMayBe(t *testing.T) {
	for _, p := range edges() {
		wantGood(t, "good", p, true)
	}
}

func TestGoodOfWhatMayNotBe(t *testing.T) {
	for _, p := range badPackets() {
		wantGood(t, "bad", p, false)
	}
	wantGood(t, "zero", api.Packet{}, false)
}

func TestGoodOfAllSites(t *testing.T) {
	for _, p := range samples() {
		for p.From = -2; p.From <= 11; p.From++ {
			for p.To = -2; p.To <= 11; p.To++ {
				is := p.From >= 1 && p.From <= 8 && p.To >= 1 && p.To <= 8 && p.From != p.To
				wantGood(t, "sites", p, is)
			}
		}
	}
}

func TestOnlyAWelcomeMayHaveNoEpoch(t *testing.T) {
	for _, p := range samples() {
		p.Epoch = 0
		wantGood(t, "epoch 0", p, p.Kind == api.PackWelcome)
		p.Epoch = 1
		wantGood(t, "epoch 1", p, true)
		p.Epoch = math.MaxUint64
		wantGood(t, "the last epoch", p, true)
	}
}

func TestNumAndMaskMayBeAny(t *testing.T) {
	for n := range 65536 {
		for _, p := range samples()[2:] {
			p.Num = uint16(n)
			if !Good(p) {
				t.Fatalf("Good(%+v): false", p)
			}
			if got, err := Read(Bytes(p)); got != p || err != api.OK {
				t.Fatalf("Read of Bytes of %+v: %+v, %v", p, got, err)
			}
		}
	}
	for k := range 64 {
		p := samples()[3]
		p.Mask = 1 << k
		wantGood(t, "one bit", p, true)
		p.Mask = ^p.Mask
		wantGood(t, "all bits but one", p, true)
	}
	p := samples()[3]
	p.Num, p.Mask = 0, 0
	wantGood(t, "no mask", p, true)
}

func TestGoodOfKindsThatAreNone(t *testing.T) {
	for _, kind := range append([]int{0, 5, 6, 7, 8}, badInts...) {
		wantGood(t, "no kind, nothing named", api.Packet{Kind: kind, From: 1, To: 2}, false)
		for _, p := range samples() {
			p.Kind = kind
			wantGood(t, "no kind", p, false)
		}
	}
}

func TestGoodOfAnotherKind(t *testing.T) {
	for _, p := range samples() {
		was := p.Kind
		for p.Kind = 1; p.Kind <= 4; p.Kind++ {
			// A hello and a welcome name the same; a Num and a Mask may be 0, a Message must be there.
			is := p.Kind == was || was <= api.PackWelcome && p.Kind != api.PackData
			wantGood(t, "another kind", p, is)
		}
	}
}

// leaves calls each with a way to every plain field of a packet, and the name of the field that it stands in.
func leaves(p *api.Packet, each func(top string, v reflect.Value)) {
	var walk func(top string, v reflect.Value)
	walk = func(top string, v reflect.Value) {
		if v.Kind() != reflect.Struct {
			each(top, v)
			return
		}
		for i := range v.NumField() {
			walk(top, v.Field(i))
		}
	}
	whole := reflect.ValueOf(p).Elem()
	for i := range whole.NumField() {
		walk(whole.Type().Field(i).Name, whole.Field(i))
	}
}

// fill sets a plain field to something that is not zero, and might be good.
func fill(v reflect.Value) {
	switch v.Kind() {
	case reflect.Int:
		v.SetInt(1)
	case reflect.Uint16, reflect.Uint64:
		v.SetUint(1)
	case reflect.String:
		v.SetString("q")
	default:
		panic(v.Kind())
	}
}

func TestWhatIsNotNamedIsZero(t *testing.T) {
	for _, p := range samples() {
		count := 0
		leaves(&p, func(top string, v reflect.Value) {
			if top == "Kind" || top == "From" || top == "To" || slices.Contains(named[p.Kind], top) {
				return
			}
			count++
			was := reflect.ValueOf(v.Interface())
			fill(v)
			wantGood(t, top, p, false)
			v.Set(was)
			wantGood(t, top+" zero again", p, true)
		})
		if want := []int{8, 8, 1, 6}[p.Kind-1]; count != want {
			t.Fatalf("kind %d does not name %d fields, want %d", p.Kind, count, want)
		}
	}
	// Not even what would be good by itself, nor a wrong one that hides behind the greatest numbers.
	for _, p := range samples()[:2] {
		p.Message = message()
		wantGood(t, "a message", p, false)
		p.Message, p.Num = api.Message{}, math.MaxUint16
		wantGood(t, "a number", p, false)
		p.Num, p.Mask = 0, math.MaxUint64
		wantGood(t, "a mask", p, false)
	}
	p := samples()[2]
	p.Mask = 1 << 63
	wantGood(t, "a message and a mask", p, false)
	p = samples()[3]
	p.Message = message()
	wantGood(t, "a mask and a message", p, false)
}

func TestKindIsThatOfTheKindAlone(t *testing.T) {
	for kind, name := range map[int]string{0: "", 1: "hello", 2: "welcome", 3: "data", 4: "ack", 5: "", -1: "", 257: "", math.MinInt: "", math.MaxInt: ""} {
		if got := Kind(api.Packet{Kind: kind}); got != name {
			t.Errorf("Kind of %d: %q, want %q", kind, got, name)
		}
		p := api.Packet{Kind: kind, From: 9, To: -1, Num: 7, Mask: 3, Message: message()}
		if got := Kind(p); got != name {
			t.Errorf("Kind of a bad one of kind %d: %q, want %q", kind, got, name)
		}
	}
}

// P19.2

func TestTheBytesOfEachKind(t *testing.T) {
	for i, want := range [][]byte{
		{0, 0, 0, 11, 1, 1, 2, 0, 0, 0, 0, 0, 0, 0, 5, 0x24, 0x56, 0x5d, 0x7f},
		{0, 0, 0, 11, 2, 2, 1, 0, 0, 0, 0, 0, 0, 0, 5, 0x38, 0xdc, 0x2d, 0xbb},
		{0, 0, 0, 35, 3, 3, 8, 1, 0, 0, 0, 0, 0, 0, 2, 1, 2, 1, 0, 0, 0, 0, 0, 0, 0, 2, 3, 0, 1, 'x', 0, 3, 'a', '.', 'b', 0, 2, 'h', 'i', 0xd5, 0x2b, 0xfc, 0x6a},
		{0, 0, 0, 21, 4, 8, 3, 0, 0, 0, 0, 0, 0, 0, 6, 255, 255, 128, 0, 0, 0, 0, 0, 0, 1, 0xde, 0x84, 0x5a, 0x7a},
	} {
		p := samples()[i]
		if got := Bytes(p); !bytes.Equal(got, want) {
			t.Errorf("Bytes(%+v): %v, want %v", p, got, want)
		}
		if got, err := Read(want); got != p || err != api.OK {
			t.Errorf("Read(%v): %+v, %v; want %+v", want, got, err, p)
		}
	}
}

func TestHowManyBytesThereAre(t *testing.T) {
	for i, want := range []int{19, 19, 43, 29} {
		if n := len(Bytes(samples()[i])); n != want {
			t.Errorf("kind %d: %d bytes, want %d", i+1, n, want)
		}
	}
	p := api.Packet{Kind: api.PackData, From: 8, To: 7, Epoch: math.MaxUint64, Num: 65535, Message: longest()}
	if n := len(Bytes(p)); n != 317 {
		t.Errorf("the longest packet has %d bytes, want 317", n)
	}
	p.Message = api.Message{Ident: api.Ident{Origin: 1, Seq: 1}, Exchange: "x"}
	if n := len(Bytes(p)); n != 38 {
		t.Errorf("the shortest data has %d bytes, want 38", n)
	}
}

func TestReadOfFewBytes(t *testing.T) {
	wantDamage(t, "nil", nil)
	wantDamage(t, "empty", []byte{})
	for n := range 40 {
		wantDamage(t, "noughts", make([]byte, n))
		wantDamage(t, "no content but noughts", sealed(make([]byte, n)))
		wantDamage(t, "all bits", bytes.Repeat([]byte{255}, n))
		wantDamage(t, "a content of all bits", sealed(bytes.Repeat([]byte{255}, n)))
	}
}

func TestReadOfWhatIsCutOrHasMore(t *testing.T) {
	for _, p := range append(samples(), edges()[len(edges())-1]) {
		b := bytesOf(p)
		for n := range b {
			wantDamage(t, "cut", b[:n])
			wantDamage(t, "cut ahead", b[n+1:])
		}
		for _, more := range [][]byte{{0}, {1}, {255}, {0, 0, 0, 0}, sealed(nil), b} {
			wantDamage(t, "more behind", slices.Concat(b, more))
			wantDamage(t, "more ahead", slices.Concat(more, b))
		}
	}
}

func TestReadOfContentsThatAreCutOrHaveMore(t *testing.T) {
	for _, p := range samples() {
		c := contentOf(p)
		for n := range c {
			wantDamage(t, "a cut content", sealed(c[:n]))
		}
		for _, more := range [][]byte{{0}, {1}, {255}, make([]byte, 2), make([]byte, 8), make([]byte, 10), make([]byte, 26), c} {
			wantDamage(t, "more in the content", sealed(slices.Concat(c, more)))
			wantDamage(t, "more ahead in the content", sealed(slices.Concat(more, c)))
		}
	}
	// What another kind has behind its epoch is too much, or too little.
	for _, p := range samples() {
		c := contentOf(p)
		for kind := range 256 {
			b := bytes.Clone(c)
			b[0] = byte(kind)
			if b = sealed(b); kind == p.Kind || kind+p.Kind == 3 && kind > 0 && p.Kind < 3 {
				wantRead(t, "another kind's", b)
			} else {
				wantDamage(t, "another kind's", b)
			}
		}
	}
}

func TestReadOfOtherCountsAndSums(t *testing.T) {
	for _, p := range samples() {
		c := contentOf(p)
		for _, count := range []int{0, 1, len(c) - 1, len(c) + 1, len(c) + 4, len(c) + 8, 256 + len(c), 1 << 20, 1<<20 + 1, math.MaxInt32, math.MaxUint32} {
			wantDamage(t, "another count, with its sum", withCount(count, c))
		}
		b := bytesOf(p)
		wantDamage(t, "no sum", b[:len(b)-4])
		wantDamage(t, "no count", b[4:])
		wantDamage(t, "a content alone", c)
		wantDamage(t, "sealed twice", sealed(b))
		slices.Reverse(b[len(b)-4:])
		wantDamage(t, "the sum's lowest byte first", b)
		b = bytesOf(p)
		slices.Reverse(b[:4])
		wantDamage(t, "the count's lowest byte first", b)
	}
}

func TestReadOfBytesOfPacketsThatAreNotGood(t *testing.T) {
	for _, p := range badPackets() {
		b := bytesOf(p)
		// Numbers that were cut may be good ones: then it is the packet with those that is read.
		if want, err := packetOf(b); err == api.OK && want == p {
			t.Fatalf("%s is good", brief(p))
		}
		wantRead(t, "bad", b)
	}
	for _, p := range samples() {
		p.To = p.From
		wantDamage(t, "a site's to itself", bytesOf(p))
		p.To = 0
		wantDamage(t, "to no site", bytesOf(p))
		p.To = 9
		wantDamage(t, "to a site that is none", bytesOf(p))
		p.To, p.From = 1, 9
		wantDamage(t, "from a site that is none", bytesOf(p))
		p.From, p.Epoch = 2, 0
		if p.Kind != api.PackWelcome {
			wantDamage(t, "no epoch", bytesOf(p))
		}
	}
	p := samples()[2]
	for _, p.Message = range []api.Message{{}, {Ident: api.Ident{Origin: 1}, Exchange: "x"}, {Ident: api.Ident{Origin: 1, Seq: 1}}} {
		wantDamage(t, "no message", bytesOf(p))
	}
}

func TestReadWithEachByteOfTheContentChanged(t *testing.T) {
	for _, p := range samples() {
		whole := contentOf(p)
		for i := range whole {
			for c := range 256 {
				b := bytes.Clone(whole)
				b[i] = byte(c)
				wantRead(t, "one byte changed, with its sum", sealed(b))
			}
		}
	}
}

// P19.3

func TestReadUndoesBytes(t *testing.T) {
	for _, p := range edges() {
		if got, err := Read(Bytes(p)); got != p || err != api.OK {
			t.Fatalf("Read of Bytes of %+v: %+v, %v", p, got, err)
		}
	}
	r := rand.New(rand.NewSource(19))
	for range 5000 {
		p := somePacket(r)
		wantGood(t, "any", p, true)
		if got, err := Read(Bytes(p)); got != p || err != api.OK {
			t.Fatalf("Read of Bytes of %+v: %+v, %v", p, got, err)
		}
	}
}

// somePacket is any good packet.
func somePacket(r *rand.Rand) api.Packet {
	text := func(from string, most int) string {
		b := make([]byte, r.Intn(most+1))
		for i := range b {
			b[i] = from[r.Intn(len(from))]
		}
		return string(b)
	}
	some := func() uint64 { return 1 + r.Uint64()>>1>>r.Intn(63) }
	from := 1 + r.Intn(8)
	p := api.Packet{Kind: 1 + r.Intn(4), From: from, To: 1 + (from+r.Intn(7))%8, Epoch: some()}
	switch p.Kind {
	case api.PackData:
		id := api.Ident{Origin: 1 + r.Intn(8), Seq: some()}
		p.Num = uint16(r.Intn(65536))
		p.Message = api.Message{Ident: id, Hop: r.Intn(9), Exchange: "n" + text(allSigns, 19), Body: text("\x00\xff\x80 aé.#*", 200)}
		for range r.Intn(5) {
			p.Message.Key += "k" + text(allSigns, 9) + "."
		}
		p.Message.Key += "k"
	case api.PackAck:
		p.Num, p.Mask = uint16(r.Intn(65536)), r.Uint64()
	}
	return p
}

func TestNoTwoPacketsHaveTheSameBytes(t *testing.T) {
	was := map[string]api.Packet{}
	for _, p := range edges() {
		b := string(Bytes(p))
		if other, is := was[b]; is && other != p {
			t.Fatalf("%+v and %+v have the same bytes", p, other)
		}
		was[b] = p
	}
}

func TestBytesUndoesRead(t *testing.T) {
	r := rand.New(rand.NewSource(91))
	for range 30000 {
		b := sealed(meddled(r, contentOf(somePacket(r))))
		if r.Intn(4) == 0 {
			b = meddled(r, b)
		}
		wantRead(t, "meddled", b)
		if p, err := Read(b); err == api.OK && !bytes.Equal(Bytes(p), b) {
			t.Fatalf("Bytes of Read of %v are others", b)
		}
	}
}

// meddled is bytes with a few of them changed, taken out, or put in.
func meddled(r *rand.Rand, b []byte) []byte {
	b = bytes.Clone(b)
	for range r.Intn(3) {
		at := r.Intn(len(b) + 1)
		switch r.Intn(4) {
		case 0:
			b = slices.Insert(b, at, byte(r.Intn(256)))
		case 1:
			b = b[:at]
		case 2:
			b = slices.Delete(b, at, min(at+1, len(b)))
		case 3:
			if at < len(b) {
				b[at] += byte(r.Intn(5) - 2)
			}
		}
	}
	return b
}

// wantSeen changes the bits of pattern from bit i on, pattern's lowest being the first, and asks whether it is seen.
func wantSeen(t *testing.T, whole []byte, i int, pattern uint32) {
	t.Helper()
	b := bytes.Clone(whole)
	for k := range 32 {
		if pattern>>k&1 == 1 {
			b[(i+k)/8] ^= 128 >> ((i + k) % 8)
		}
	}
	if p, err := Read(b); p != (api.Packet{}) || err != api.ErrDamage {
		t.Fatalf("bits %#b changed from bit %d on: Read: %+v, %v", pattern, i, p, err)
	}
}

func TestUpTo32BitsInARowAreSeen(t *testing.T) {
	r := rand.New(rand.NewSource(32))
	short := api.Packet{Kind: api.PackWelcome, From: 1, To: 2}
	for _, p := range append(samples(), short) {
		whole := Bytes(p)
		for i := 32; i < 8*len(whole); i++ {
			for long := 1; long <= min(32, 8*len(whole)-i); long++ {
				ends := uint32(1) | 1<<(long-1)
				all := uint32(1<<long - 1)
				wantSeen(t, whole, i, ends)
				wantSeen(t, whole, i, all)
				wantSeen(t, whole, i, r.Uint32()&all|ends)
			}
		}
	}
}

func TestAllChangesOfOneByteAreSeen(t *testing.T) {
	for _, p := range samples() {
		whole := Bytes(p)
		for i := 32; i+8 <= 8*len(whole); i++ {
			for pattern := uint32(1); pattern < 1<<8; pattern++ {
				wantSeen(t, whole, i, pattern)
			}
		}
	}
}

// R3

// roomy is b with other bytes in the room behind its end, and the whole of that room.
func roomy(b []byte) (list, room []byte) {
	room = append(bytes.Clone(b), bytes.Repeat([]byte{0xaa}, 64)...)
	return room[:len(b)], room
}

func scribble(b []byte) {
	b = b[:cap(b)]
	for i := range b {
		b[i] ^= 0x5f
	}
}

func TestNothingThatIsGivenIsChangedOrKept(t *testing.T) {
	for _, p := range samples() {
		b, room := roomy(bytesOf(p))
		was := bytes.Clone(room)
		got, err := Read(b)
		if !bytes.Equal(room, was) {
			t.Errorf("Read changed %v to %v", was, room)
		}
		scribble(room)
		if got != p || err != api.OK {
			t.Errorf("what Read told was changed from outside: %+v, %v", got, err)
		}
	}
}

func TestTheRoomBehindIsNotLookedAt(t *testing.T) {
	for _, p := range samples() {
		b := bytesOf(p)
		for n := range b {
			wantDamage(t, "the rest in the room behind", b[:n:len(b)])
		}
		c := append(contentOf(p), 0, 0, 0)
		wantDamage(t, "a content with more", sealed(c))
	}
}

func TestAnswersShareNoMemory(t *testing.T) {
	for _, p := range samples() {
		one, two := Bytes(p), Bytes(p)
		scribble(one)
		if !bytes.Equal(two, bytesOf(p)) {
			t.Errorf("two answers of Bytes of %+v share memory", p)
		}
		if three := Bytes(p); !bytes.Equal(three, bytesOf(p)) {
			t.Errorf("Bytes of %+v are others behind a change of an answer", p)
		}
	}
}

// P1: no call panics, and each ends, at arguments of any size.

func TestGreatArguments(t *testing.T) {
	huge := strings.Repeat("a", 1<<24)
	m := api.Message{Ident: api.Ident{Origin: 1, Seq: 1}, Exchange: huge, Key: huge, Body: huge}
	for _, p := range samples() {
		p.Message = m
		wantGood(t, "huge texts", p, false)
	}
	for c := range 256 {
		wantDamage(t, "the same byte often", bytes.Repeat([]byte{byte(c)}, 1<<18))
	}
	for _, n := range []int{1 << 16, 1<<20 - 1, 1 << 20} {
		c := make([]byte, n)
		copy(c, contentOf(samples()[2]))
		wantDamage(t, "a great content", sealed(c))
	}
	wantDamage(t, "a content above seal's limit", sealed(make([]byte, 1<<20+1)))
}
