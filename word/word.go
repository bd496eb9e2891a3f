// Package word is layer 1: whole numbers of given widths, in bytes and around. See shared/doc/01-word.md.
package word

// widths are all that a number may have, in bytes.
var widths = [4]int{1, 2, 4, 8}

// Good: may it be a width?
func Good(width int) bool {
	for _, w := range widths {
		if w == width {
			return true
		}
	}
	return false
}

// Put: a number behind bytes, its highest byte first. With no width only the bytes.
func Put(b []byte, width int, v uint64) []byte {
	if !Good(width) {
		width = 0
	}
	// A list of its own: appending to b could write into the room behind its end.
	out := make([]byte, 0, len(b)+width)
	out = append(out, b...)
	for i := range width {
		out = append(out, byte(v>>(8*(width-1-i))))
	}
	return out
}

// Get: the number that bytes begin with, its highest byte first.
func Get(b []byte, width int) (uint64, bool) {
	if !Good(width) || len(b) < width {
		return 0, false
	}
	var v uint64
	for i := range width {
		v = v<<8 | uint64(b[i])
	}
	return v, true
}

// Cut: the lowest bytes of a number.
func Cut(v uint64, width int) uint64 {
	switch width {
	case 1:
		return uint64(uint8(v))
	case 2:
		return uint64(uint16(v))
	case 4:
		return uint64(uint32(v))
	case 8:
		return v
	}
	return 0
}

// Signed: they, with a sign.
func Signed(v uint64, width int) int64 {
	switch width {
	case 1:
		return int64(int8(v))
	case 2:
		return int64(int16(v))
	case 4:
		return int64(int32(v))
	case 8:
		return int64(v)
	}
	return 0
}

// Fits: is a number one of so many bytes?
func Fits(n int64, width int) bool {
	// Asked first: Signed answers 0 where there is no width, and 0 would seem to fit.
	return Good(width) && Signed(uint64(n), width) == n
}

// Far: from one number up to another one, around: -32768 to 32767.
func Far(a, b uint16) int {
	// The difference goes around in 16 bits; its sign says which way is meant.
	return int(int16(b - a))
}

// Less: is one ahead of the other? Of two that are 32768 apart neither is.
func Less(a, b uint16) bool {
	return Far(a, b) > 0
}

// Move: a number moved, around.
func Move(a uint16, n int) uint16 {
	// Only n's lowest 16 bits count on the circle, whatever its sign.
	return a + uint16(n)
}
