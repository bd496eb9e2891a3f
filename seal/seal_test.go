package seal

import (
	"bytes"
	"encoding/binary"
	"math"
	"math/big"
	"slices"
	"testing"

	"staith/api"
)

// maxSeal stands here once more, so that another limit of the program's is seen.
const maxSeal = 1048576

// bitByBit is the sum by the chapter's words, one bit after the other.
func bitByBit(b []byte) uint32 {
	rest := uint32(1<<32 - 1)
	for i := range 8 * len(b) {
		bit := b[i/8]>>(7-i%8)&1 == 1
		other := (rest&(1<<31) != 0) != bit
		rest <<= 1
		if other {
			rest ^= 0x741b8cd7
		}
	}
	return rest
}

// divided is the sum once more, as what is left of a long division of the whole number that b is, with 32 bits behind it.
func divided(b []byte) uint32 {
	n := uint(8 * len(b))
	rest := new(big.Int).Lsh(new(big.Int).SetBytes(b), 32)
	rest.Xor(rest, new(big.Int).Lsh(big.NewInt(math.MaxUint32), n))
	by := big.NewInt(0x1741b8cd7)
	for rest.BitLen() > 32 {
		rest.Xor(rest, new(big.Int).Lsh(by, uint(rest.BitLen()-33)))
	}
	return uint32(rest.Uint64())
}

// sealed is the seal of b, made by the library and by bitByBit.
func sealed(b []byte) []byte {
	return withSum(append(binary.BigEndian.AppendUint32(nil, uint32(len(b))), b...))
}

// withSum is bytes and their sum, whatever count they begin with.
func withSum(b []byte) []byte {
	return binary.BigEndian.AppendUint32(bytes.Clone(b), bitByBit(b))
}

// some are n bytes in no plain order, the same ones for the same seed.
func some(n int, seed uint32) []byte {
	b := make([]byte, n)
	for i := range b {
		seed = seed*1664525 + 1013904223
		b[i] = byte(seed >> 24)
	}
	return b
}

// someContents are contents of all kinds: none, one byte, all 0, all 255, any.
func someContents() [][]byte {
	l := [][]byte{nil, {}, {0}, {1}, {128}, {255}, []byte("staith"), sealed([]byte{1, 2, 3})}
	for _, n := range []int{2, 3, 4, 5, 7, 8, 9, 31, 32, 33, 100, 255, 256, 257} {
		l = append(l, make([]byte, n), bytes.Repeat([]byte{255}, n), some(n, uint32(n)))
	}
	return l
}

// roomy is b with other bytes in the room behind its end, and the whole of that room.
func roomy(b []byte) (list, room []byte) {
	room = append(bytes.Clone(b), bytes.Repeat([]byte{0xaa}, 64)...)
	return room[:len(b)], room
}

// scribble writes into a list and into its spare room.
func scribble(b []byte) {
	b = b[:cap(b)]
	for i := range b {
		b[i] ^= 0x5f
	}
}

func wantOpen(t *testing.T, what string, b, content []byte, size int, err api.Errno) {
	t.Helper()
	c, n, e := Open(b)
	if !bytes.Equal(c, content) || n != size || e != err {
		t.Errorf("%s: Open: %d bytes, %d, %v; want %d bytes, %d, %v", what, len(c), n, e, len(content), size, err)
	}
}

func wantWhole(t *testing.T, what string, b []byte, contents [][]byte, size int) {
	t.Helper()
	l, n := Whole(b)
	if !slices.EqualFunc(l, contents, bytes.Equal) || n != size {
		t.Errorf("%s: Whole: %v, %d; want %v, %d", what, l, n, contents, size)
	}
}

// P3.1

func TestSumIsTheChaptersNumber(t *testing.T) {
	for _, c := range []struct {
		b    []byte
		want uint32
	}{
		{nil, 0xffffffff},
		{[]byte{}, 0xffffffff},
		{[]byte{0}, 0xb1cbb503},
		{[]byte{1}, 0xc5d039d4},
		{[]byte{128}, 0xe2e81c6a},
		{[]byte{255}, 0xffffff00},
		{[]byte{0, 0, 0, 0}, 0xdc4cc210},
		{[]byte{255, 255, 255, 255}, 0},
		{make([]byte, 8), 0xe5c5f93e},
		{bytes.Repeat([]byte{255}, 8), 0xdc4cc210},
		{[]byte("123456789"), 0x2eb14879},
		{[]byte{0, 0, 0, 1, 7}, 0xf307785e},
	} {
		if got := Sum(c.b); got != c.want {
			t.Errorf("Sum(%v): %#x, want %#x", c.b, got, c.want)
		}
	}
}

func TestSumOfOneByte(t *testing.T) {
	for i := range 256 {
		b := []byte{byte(i)}
		if got, want := Sum(b), bitByBit(b); got != want {
			t.Errorf("Sum(%v): %#x, want %#x", b, got, want)
		}
	}
}

func TestSumIsReckonedBitByBit(t *testing.T) {
	for n := range 130 {
		for _, b := range [][]byte{make([]byte, n), bytes.Repeat([]byte{255}, n), some(n, 1), some(n, 77)} {
			got, want, left := Sum(b), bitByBit(b), divided(b)
			if got != want || got != left {
				t.Fatalf("Sum(%v): %#x, want %#x and %#x", b, got, want, left)
			}
		}
	}
	for _, b := range [][]byte{make([]byte, maxSeal+9), bytes.Repeat([]byte{255}, maxSeal+9), some(maxSeal+9, 5)} {
		if got, want := Sum(b), bitByBit(b); got != want {
			t.Errorf("Sum of %d bytes: %#x, want %#x", len(b), got, want)
		}
	}
}

func TestSumOfEachBit(t *testing.T) {
	for i := range 8 * 20 {
		b := make([]byte, 20)
		flip(b, i)
		if got, want := Sum(b), bitByBit(b); got != want {
			t.Errorf("Sum of bit %d alone: %#x, want %#x", i, got, want)
		}
	}
}

func TestSealIsCountContentAndSum(t *testing.T) {
	if got := Seal(nil); !bytes.Equal(got, []byte{0, 0, 0, 0, 0xdc, 0x4c, 0xc2, 0x10}) {
		t.Errorf("Seal(nil): %x", got)
	}
	if got := Seal([]byte{7}); !bytes.Equal(got, []byte{0, 0, 0, 1, 7, 0xf3, 0x07, 0x78, 0x5e}) {
		t.Errorf("Seal(7): %x", got)
	}
	for _, c := range someContents() {
		if got, want := Seal(c), sealed(c); !bytes.Equal(got, want) {
			t.Errorf("Seal(%v): %v, want %v", c, got, want)
		}
	}
}

func TestSealAtTheLimit(t *testing.T) {
	for _, n := range []int{maxSeal - 1, maxSeal} {
		c := some(n, 3)
		b := Seal(c)
		if !bytes.Equal(b, sealed(c)) {
			t.Errorf("Seal of %d bytes is another one, of %d", n, len(b))
		}
		wantOpen(t, "at the limit", b, c, n+8, api.OK)
	}
	for _, n := range []int{maxSeal + 1, maxSeal + 2, 2 * maxSeal, 5*maxSeal + 1} {
		if b := Seal(make([]byte, n)); len(b) != 0 {
			t.Errorf("Seal of %d bytes: %d bytes, want nothing", n, len(b))
		}
	}
}

// P3.2

func TestOpenOfFewBytes(t *testing.T) {
	wantOpen(t, "nil", nil, nil, 0, api.ErrShort)
	wantOpen(t, "empty", []byte{}, nil, 0, api.ErrShort)
	for n := range 8 {
		wantOpen(t, "zeros", make([]byte, n), nil, 0, api.ErrShort)
	}
	wantOpen(t, "three high bytes", []byte{255, 255, 255}, nil, 0, api.ErrShort)
	wantOpen(t, "a count of 2^24", []byte{1, 0, 0, 0}, nil, 0, api.ErrLimit)
	wantOpen(t, "eight zeros", make([]byte, 8), nil, 0, api.ErrDamage)
	wantOpen(t, "the seal of nothing", []byte{0, 0, 0, 0, 0xdc, 0x4c, 0xc2, 0x10}, nil, 8, api.OK)
}

func TestOpenOfACountAboveTheLimit(t *testing.T) {
	for _, count := range []uint32{maxSeal + 1, maxSeal + 2, 2 * maxSeal, 1 << 24, 1<<31 - 1, 1 << 31, 1<<32 - 9, 1<<32 - 8, 1<<32 - 4, math.MaxUint32} {
		head := binary.BigEndian.AppendUint32(nil, count)
		for _, n := range []int{0, 1, 3, 4, 5, 8, 1000} {
			wantOpen(t, "few bytes behind", append(bytes.Clone(head), make([]byte, n)...), nil, 0, api.ErrLimit)
		}
		wantOpen(t, "a sum behind", withSum(head), nil, 0, api.ErrLimit)
	}
	for _, count := range []int{maxSeal + 1, maxSeal + 9} {
		b := binary.BigEndian.AppendUint32(nil, uint32(count))
		b = withSum(append(b, some(count, 9)...))
		wantOpen(t, "the content and its sum behind", b, nil, 0, api.ErrLimit)
		wantOpen(t, "more behind", append(b, 1, 2, 3), nil, 0, api.ErrLimit)
		if l, n := Whole(b); len(l) != 0 || n != 0 {
			t.Errorf("Whole of a count of %d: %d contents, %d bytes", count, len(l), n)
		}
	}
}

func TestOpenOfACountAtTheLimit(t *testing.T) {
	head := binary.BigEndian.AppendUint32(nil, maxSeal)
	wantOpen(t, "nothing behind", head, nil, 0, api.ErrShort)
	wantOpen(t, "one byte less", append(head, make([]byte, maxSeal+3)...), nil, 0, api.ErrShort)
	wantOpen(t, "as many, damaged", append(head, make([]byte, maxSeal+4)...), nil, 0, api.ErrDamage)
}

func TestOpenOfWhatIsCutAnywhere(t *testing.T) {
	for _, c := range someContents() {
		b := sealed(c)
		for n := range b {
			wantOpen(t, "cut", b[:n], nil, 0, api.ErrShort)
			wantOpen(t, "cut, without room behind", bytes.Clone(b[:n]), nil, 0, api.ErrShort)
		}
		wantOpen(t, "not cut", b, c, len(c)+8, api.OK)
	}
}

func TestOpenWithMoreBehind(t *testing.T) {
	for _, c := range someContents() {
		for _, more := range [][]byte{{0}, {255}, {1, 2, 3}, make([]byte, 8), sealed(c), some(50, 4)} {
			wantOpen(t, "more behind", slices.Concat(sealed(c), more), c, len(c)+8, api.OK)
		}
	}
}

func TestOpenOfAnotherSum(t *testing.T) {
	for _, sum := range []uint32{0, 1, math.MaxUint32, ^bitByBit([]byte{0, 0, 0, 1, 7}), bitByBit([]byte{7})} {
		b := binary.BigEndian.AppendUint32([]byte{0, 0, 0, 1, 7}, sum)
		wantOpen(t, "another sum", b, nil, 0, api.ErrDamage)
	}
	// The lowest byte first is another sum too.
	b := binary.LittleEndian.AppendUint32([]byte{0, 0, 0, 1, 7}, bitByBit([]byte{0, 0, 0, 1, 7}))
	wantOpen(t, "a sum turned around", b, nil, 0, api.ErrDamage)
}

// flip changes bit i, the highest of the first byte being 0.
func flip(b []byte, i int) {
	b[i/8] ^= 128 >> (i % 8)
}

// wantOfCount is what Open must answer to the damaged bytes b, by the count that they now begin with.
func wantOfCount(b []byte) api.Errno {
	count := int(binary.BigEndian.Uint32(b))
	switch {
	case count > maxSeal:
		return api.ErrLimit
	case len(b) < count+8:
		return api.ErrShort
	}
	return api.ErrDamage
}

func TestOpenWithEachSingleBitChanged(t *testing.T) {
	for _, c := range someContents() {
		whole := sealed(c)
		for i := range 8 * len(whole) {
			b := bytes.Clone(whole)
			flip(b, i)
			want := wantOfCount(b)
			if i >= 32 && want != api.ErrDamage {
				t.Fatalf("bit %d is none of the count", i)
			}
			wantOpen(t, "one bit changed", b, nil, 0, want)
			if i < 32 {
				b = append(b, some(600, 6)...)
				wantOpen(t, "one bit of the count changed, with more behind", b, nil, 0, wantOfCount(b))
			}
		}
	}
}

func TestOpenWithTheCountTurnedAround(t *testing.T) {
	// A seal whose count is the content's length with its order turned around is none.
	b := append([]byte{1, 0, 0, 0}, 7)
	wantOpen(t, "the lowest byte first", withSum(b), nil, 0, api.ErrLimit)
	wantWhole(t, "the lowest byte first", withSum(b), nil, 0)
}

func TestWholeExamples(t *testing.T) {
	one, two, three := []byte{1}, []byte{}, some(40, 8)
	a, b, c := sealed(one), sealed(two), sealed(three)
	wantWhole(t, "nil", nil, nil, 0)
	wantWhole(t, "empty", []byte{}, nil, 0)
	wantWhole(t, "one", a, [][]byte{one}, 9)
	wantWhole(t, "one of nothing", b, [][]byte{two}, 8)
	wantWhole(t, "two and a byte", slices.Concat(b, a, []byte{7}), [][]byte{two, one}, 17)
	wantWhole(t, "three", slices.Concat(a, b, c), [][]byte{one, two, three}, 65)
	wantWhole(t, "three, turned around", slices.Concat(c, b, a), [][]byte{three, two, one}, 65)
	wantWhole(t, "the same one again", slices.Concat(a, a, a, a), [][]byte{one, one, one, one}, 36)
	wantWhole(t, "other bytes first", slices.Concat([]byte{9}, a, b), nil, 0)
	wantWhole(t, "damage first", slices.Concat(make([]byte, 8), a, b), nil, 0)
	wantWhole(t, "damage between", slices.Concat(a, make([]byte, 8), b), [][]byte{one}, 9)
	wantWhole(t, "a seal in a seal", sealed(slices.Concat(a, b)), [][]byte{slices.Concat(a, b)}, 25)
}

func TestWholeWithAPartBehind(t *testing.T) {
	one, two, part := []byte{1, 2}, some(20, 2), sealed(some(13, 1))
	head := slices.Concat(sealed(one), sealed(two))
	for n := range part {
		wantWhole(t, "a part behind", slices.Concat(head, part[:n]), [][]byte{one, two}, len(head))
	}
	wantWhole(t, "all of it", slices.Concat(head, part), [][]byte{one, two, some(13, 1)}, len(head)+len(part))
}

func TestWholeCutAnywhere(t *testing.T) {
	contents := [][]byte{nil, {1}, some(12, 1), nil, some(5, 2)}
	var b []byte
	for _, c := range contents {
		b = append(b, sealed(c)...)
	}
	for n := range len(b) + 1 {
		k, size := 0, 0
		for k < len(contents) && size+len(contents[k])+8 <= n {
			size += len(contents[k]) + 8
			k++
		}
		wantWhole(t, "cut", b[:n], contents[:k], size)
	}
}

func TestWholeWithDamage(t *testing.T) {
	contents := [][]byte{{1, 2, 3}, nil, some(9, 4)}
	starts := []int{0, 11, 19, 36}
	whole := slices.Concat(sealed(contents[0]), sealed(contents[1]), sealed(contents[2]))
	for i := range 8 * len(whole) {
		b := bytes.Clone(whole)
		flip(b, i)
		k := 0
		for starts[k+1] <= i/8 {
			k++
		}
		wantWhole(t, "one bit changed", b, contents[:k], starts[k])
	}
}

func TestWholeWithOtherBytesBehind(t *testing.T) {
	head := slices.Concat(sealed([]byte{1}), sealed(nil))
	want := [][]byte{{1}, {}}
	for _, more := range [][]byte{{0}, {255, 255, 255, 255}, make([]byte, 7), make([]byte, 8), make([]byte, 100), bytes.Repeat([]byte{255}, 100), some(100, 3), []byte("staith"), binary.BigEndian.AppendUint32(nil, maxSeal+1), binary.BigEndian.AppendUint32(nil, maxSeal)} {
		wantWhole(t, "other bytes behind", slices.Concat(head, more), want, len(head))
		wantWhole(t, "and a seal behind them", slices.Concat(head, more, sealed(nil)), want, len(head))
	}
}

func TestWholeOfMany(t *testing.T) {
	var b []byte
	var contents [][]byte
	for i := range 3000 {
		contents = append(contents, some(i%17, uint32(i)))
		b = append(b, sealed(contents[i])...)
	}
	wantWhole(t, "many", b, contents, len(b))
}

func TestWholeOfAGreatOne(t *testing.T) {
	c := some(maxSeal, 2)
	b := slices.Concat(sealed(nil), sealed(c), sealed([]byte{1}))
	l, n := Whole(b)
	if n != len(b) || !slices.EqualFunc(l, [][]byte{nil, c, {1}}, bytes.Equal) {
		t.Errorf("Whole: %d contents, %d bytes", len(l), n)
	}
}

// P3.3

func TestOpenUndoesSeal(t *testing.T) {
	for _, c := range someContents() {
		wantOpen(t, "Open of Seal", Seal(c), c, len(c)+8, api.OK)
		wantOpen(t, "with more behind", append(Seal(c), 1), c, len(c)+8, api.OK)
		wantWhole(t, "Whole of Seal", Seal(c), [][]byte{c}, len(c)+8)
	}
}

// wantSeen changes the bits of pattern from bit i on, pattern's lowest being the first, and asks whether it is seen.
func wantSeen(t *testing.T, whole []byte, i int, pattern uint32) {
	t.Helper()
	b := bytes.Clone(whole)
	for k := range 32 {
		if pattern>>k&1 == 1 {
			flip(b, i+k)
		}
	}
	if c, n, e := Open(b); len(c) != 0 || n != 0 || e != api.ErrDamage {
		t.Fatalf("bits %#b changed from bit %d on: Open: %v, %d, %v", pattern, i, c, n, e)
	}
}

func TestUpTo32BitsInARowAreSeen(t *testing.T) {
	seed := uint32(11)
	for _, c := range [][]byte{nil, {0}, {255}, some(3, 1), some(24, 2), make([]byte, 40), bytes.Repeat([]byte{255}, 40)} {
		whole := Seal(c)
		for i := 32; i < 8*len(whole); i++ {
			for long := 1; long <= min(32, 8*len(whole)-i); long++ {
				ends := uint32(1) | 1<<(long-1)
				all := uint32(1<<long - 1)
				wantSeen(t, whole, i, ends)
				wantSeen(t, whole, i, all)
				for range 4 {
					seed = seed*1664525 + 1013904223
					wantSeen(t, whole, i, seed&all|ends)
				}
			}
		}
	}
}

func TestAllChangesOfFewBitsInARowAreSeen(t *testing.T) {
	whole := Seal([]byte{1, 2, 3, 4, 5})
	for i := 32; i+9 <= 8*len(whole); i++ {
		for pattern := uint32(1); pattern < 1<<9; pattern++ {
			wantSeen(t, whole, i, pattern)
		}
	}
}

func TestTheBoundOf32BitsIsSharp(t *testing.T) {
	// 33 bits that are the polynomial make the same remainder: the bound of 32 is a sharp one.
	whole := Seal([]byte{1, 2, 3, 4, 5})
	for i := 32; i+33 <= 8*len(whole); i++ {
		b := bytes.Clone(whole)
		for k := range 33 {
			if uint64(0x1741b8cd7)>>(32-k)&1 == 1 {
				flip(b, i+k)
			}
		}
		if _, n, e := Open(b); n != len(whole) || e != api.OK {
			t.Errorf("the polynomial at bit %d: %d, %v", i, n, e)
		}
	}
}

// R3

func TestNothingThatIsGivenIsChanged(t *testing.T) {
	for _, c := range someContents() {
		for _, from := range [][]byte{c, sealed(c), slices.Concat(sealed(c), sealed(nil), sealed(c)), append(sealed(c), 1, 2, 3)} {
			b, room := roomy(from)
			was := bytes.Clone(room)
			Sum(b)
			Seal(b)
			Open(b)
			Whole(b)
			if !bytes.Equal(room, was) {
				t.Errorf("what was given is changed: %v, was %v", room, was)
			}
		}
	}
}

func TestTheRoomBehindIsNotLookedAt(t *testing.T) {
	room := slices.Concat(sealed([]byte{1}), sealed([]byte{2, 3}))
	wantOpen(t, "with the sum in the room behind", room[:8], nil, 0, api.ErrShort)
	wantOpen(t, "with the count in the room behind", room[:3], nil, 0, api.ErrShort)
	wantWhole(t, "with a seal in the room behind", room[:9], [][]byte{{1}}, 9)
	wantWhole(t, "with a part of one in the room behind", room[:12], [][]byte{{1}}, 9)
	if got := Seal(room[:0]); len(got) != 8 {
		t.Errorf("Seal of nothing with room behind: %d bytes", len(got))
	}
}

func TestAnswersAreNotChangedByWhatIsDoneToWhatWasGiven(t *testing.T) {
	for _, c := range someContents() {
		from, _ := roomy(c)
		b := Seal(from)
		scribble(from)
		if !bytes.Equal(b, sealed(c)) {
			t.Errorf("Seal(%v) was changed from outside", c)
		}

		from, _ = roomy(slices.Concat(sealed(c), sealed(c)))
		content, _, _ := Open(from)
		contents, _ := Whole(from)
		scribble(from)
		if !bytes.Equal(content, c) || !slices.EqualFunc(contents, [][]byte{c, c}, bytes.Equal) {
			t.Errorf("what was told of %v was changed from outside", c)
		}
	}
}

func TestWhatIsGivenIsNotChangedByWhatIsDoneToAnswers(t *testing.T) {
	for _, c := range someContents() {
		b, room := roomy(slices.Concat(sealed(c), sealed(c)))
		was := bytes.Clone(room)
		scribble(Seal(b))
		scribble(Seal(b[:0]))
		content, _, _ := Open(b)
		scribble(content)
		contents, _ := Whole(b)
		for _, l := range contents {
			scribble(l)
		}
		if !bytes.Equal(room, was) {
			t.Errorf("what was given shares memory with what is told: %v, was %v", room, was)
		}
	}
}

func TestNoTwoContentsShareMemory(t *testing.T) {
	var b []byte
	var want [][]byte
	for i := range 40 {
		want = append(want, some(i%9, uint32(i)))
		b = append(b, sealed(want[i])...)
	}
	for i := range want {
		contents, _ := Whole(b)
		scribble(contents[i])
		for k, l := range contents {
			if k != i && !bytes.Equal(l, want[k]) {
				t.Fatalf("content %d shares memory with content %d", k, i)
			}
		}
	}
	// Neither is what is put behind one of them seen in another one.
	contents, _ := Whole(b)
	for i := range contents {
		contents[i] = append(contents[i], 0xee, 0xee, 0xee)
	}
	for i, l := range contents {
		if !bytes.Equal(l, append(bytes.Clone(want[i]), 0xee, 0xee, 0xee)) {
			t.Fatalf("content %d was changed by what was put behind another one: %v", i, l)
		}
	}
}

func TestAnswersOfTwoCallsShareNoMemory(t *testing.T) {
	for _, c := range someContents() {
		b := sealed(c)
		one, two := Seal(c), Seal(c)
		scribble(one)
		if !bytes.Equal(two, b) {
			t.Errorf("two Seals of %v share memory", c)
		}
		first, _, _ := Open(b)
		second, _, _ := Open(b)
		scribble(first)
		all, _ := Whole(b)
		more, _ := Whole(b)
		scribble(all[0])
		all[0] = nil
		if !bytes.Equal(second, c) || !bytes.Equal(more[0], c) {
			t.Errorf("two answers of %v share memory", c)
		}
	}
}

// P1, R4: no arguments make a call panic, and the same ones have the same answer.

func TestAllArguments(t *testing.T) {
	lists := someContents()
	for n := range 40 {
		lists = append(lists, some(n, uint32(n)), append(make([]byte, 3), some(n, uint32(n))...))
	}
	for _, b := range lists {
		if Sum(b) != Sum(b) || !bytes.Equal(Seal(b), Seal(b)) {
			t.Errorf("%v: two answers of Sum or Seal", b)
		}
		c, n, e := Open(b)
		d, m, f := Open(b)
		if !bytes.Equal(c, d) || n != m || e != f {
			t.Errorf("%v: two answers of Open", b)
		}
		if e != api.OK && (len(c) != 0 || n != 0) {
			t.Errorf("%v: %v and %d beside %v", b, c, n, e)
		}
		l, size := Whole(b)
		wantWhole(t, "again", b, l, size)
		if size < 0 || size > len(b) || (len(l) == 0) != (size == 0) {
			t.Errorf("%v: Whole tells %d contents in %d bytes", b, len(l), size)
		}
	}
}
