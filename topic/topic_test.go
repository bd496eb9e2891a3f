package topic

import (
	"regexp"
	"slices"
	"strings"
	"testing"

	"staith/api"
)

// signs are all bytes that a name may have.
const signs = "abcdefghijklmnopqrstuvwxyz0123456789-_"

// broken are texts with bytes beyond 127: runes of all lengths, and bytes that are no text.
func broken() []string {
	return []string{
		"\u00e9", "\u00df", "\u0430", "\u20ac", "\uff41", "\uff0e", "\u2024", "\U0001d41a", "\ufffd", "\ufeff",
		"\x80", "\xbf", "\xc0\xae", "\xc1\xa1", "\xc3", "\xe2\x82", "\xed\xa0\x80", "\xf0\x9f\x98", "\xf4\x90\x80\x80", "\xfe", "\xff",
		"\xe1", "\xae", "\xaa", "\xa3", "\xad", "\xdf", // a . * # - _ with the highest bit set
	}
}

// oddTexts are texts that may be no name, each for another cause.
func oddTexts() []string {
	return append(broken(), "A", "Z", " ", "\x00", "\n", "/", ":", "`", "{", ",", "@", "$", "+", "!", "\x7f", "~", "\"")
}

// repeated is a word n times, with dots between.
func repeated(word string, n int) string {
	return strings.Join(slices.Repeat([]string{word}, n), ".")
}

// textsOf are all texts of at most n of some words, with dots between; the empty one, too.
func textsOf(n int, words ...string) []string {
	all := []string{""}
	last := []string{""}
	for i := range n {
		var longer []string
		for _, s := range last {
			for _, w := range words {
				if i > 0 {
					longer = append(longer, s+"."+w)
				} else {
					longer = append(longer, w)
				}
			}
		}
		all = append(all, longer...)
		last = longer
	}
	return all
}

// bytesOf are all texts of at most n of some pieces, one behind the other.
func bytesOf(n int, pieces ...string) []string {
	all := []string{""}
	last := []string{""}
	for range n {
		var longer []string
		for _, s := range last {
			for _, p := range pieces {
				longer = append(longer, s+p)
			}
		}
		all = append(all, longer...)
		last = longer
	}
	return all
}

// next is a number in no plain order.
func next(seed *uint64) int {
	*seed = *seed*6364136223846793005 + 1442695040888963407
	return int(*seed >> 33)
}

// someText is at most n of some words, with dots between, in no plain order.
func someText(seed *uint64, n int, words ...string) string {
	var l []string
	for range next(seed) % (n + 1) {
		l = append(l, words[next(seed)%len(words)])
	}
	return strings.Join(l, ".")
}

func wantName(t *testing.T, s string, want bool) {
	t.Helper()
	if got := Name(s); got != want {
		t.Errorf("Name(%q): %v, want %v", s, got, want)
	}
}

func wantKey(t *testing.T, s string, want bool) {
	t.Helper()
	if got := Key(s); got != want {
		t.Errorf("Key(%q): %v, want %v", s, got, want)
	}
}

func wantPattern(t *testing.T, s string, want bool) {
	t.Helper()
	if got := Pattern(s); got != want {
		t.Errorf("Pattern(%q): %v, want %v", s, got, want)
	}
}

func wantWords(t *testing.T, s string, want ...string) {
	t.Helper()
	if got := Words(s); !slices.Equal(got, want) {
		t.Errorf("Words(%q): %q, want %q", s, got, want)
	}
}

func wantMatch(t *testing.T, pattern, key string, want bool) {
	t.Helper()
	if got := Match(pattern, key); got != want {
		t.Errorf("Match(%q, %q): %v, want %v", pattern, key, got, want)
	}
}

func wantOver(t *testing.T, a, b string, want bool) {
	t.Helper()
	if got := Over(a, b); got != want {
		t.Errorf("Over(%q, %q): %v, want %v", a, b, got, want)
	}
}

// P5.1: Name

func TestNameOfEachLength(t *testing.T) {
	wantName(t, "", false)
	for n := 1; n <= api.MaxName; n++ {
		wantName(t, strings.Repeat("a", n), true)
	}
	for _, n := range []int{api.MaxName + 1, api.MaxName + 2, api.MaxKey, 1000, 1 << 20} {
		wantName(t, strings.Repeat("a", n), false)
	}
	wantName(t, signs[:api.MaxName], true)
	wantName(t, signs[len(signs)-api.MaxName:], true)
	wantName(t, signs[:api.MaxName+1], false)
}

// A rune of more bytes must not stand for one of MaxName.
func TestNameCountsBytes(t *testing.T) {
	for _, s := range broken() {
		wantName(t, strings.Repeat(s, api.MaxName), false)
		wantName(t, strings.Repeat("a", api.MaxName-1)+s, false)
		wantName(t, strings.Repeat("a", api.MaxName)+s, false)
	}
}

func TestNameOfEachByte(t *testing.T) {
	for c := range 256 {
		b := string([]byte{byte(c)})
		want := strings.Contains(signs, b)
		for _, s := range []string{b, b + b, b + "a", "a" + b, "a" + b + "a", "0" + b + "_", strings.Repeat(b, api.MaxName), strings.Repeat("-", api.MaxName-1) + b} {
			wantName(t, s, want)
		}
	}
}

func TestNamesThatAreNone(t *testing.T) {
	for _, odd := range append(oddTexts(), ".", "*", "#", "a.b", "a.", ".a", "..", "*.#") {
		for _, s := range []string{odd, odd + "a", "a" + odd, "a" + odd + "a"} {
			wantName(t, s, false)
		}
	}
}

// P5.1: Words

func TestWords(t *testing.T) {
	wantWords(t, "")
	wantWords(t, "a", "a")
	wantWords(t, "abc-1_", "abc-1_")
	wantWords(t, ".", "", "")
	wantWords(t, "..", "", "", "")
	wantWords(t, "...", "", "", "", "")
	wantWords(t, "a.b", "a", "b")
	wantWords(t, "a.b.c", "a", "b", "c")
	wantWords(t, "a.a.a", "a", "a", "a")
	wantWords(t, ".a", "", "a")
	wantWords(t, "..a", "", "", "a")
	wantWords(t, "a.", "a", "")
	wantWords(t, "a..", "a", "", "")
	wantWords(t, ".a.", "", "a", "")
	wantWords(t, "a..b", "a", "", "b")
	wantWords(t, "a...b", "a", "", "", "b")
	wantWords(t, ".a..b.", "", "a", "", "b", "")
	wantWords(t, "*.#.**.a#", "*", "#", "**", "a#")
	wantWords(t, " . a\n.\x00.A,b", " ", " a\n", "\x00", "A,b")
}

// Words splits every text: what may be no key, too, and without an end to its words.
func TestWordsOfOtherTexts(t *testing.T) {
	for _, odd := range oddTexts() {
		wantWords(t, odd, odd)
		wantWords(t, odd+"."+odd, odd, odd)
		wantWords(t, "."+odd+"a.", "", odd+"a", "")
	}
	wantWords(t, "a\xff.\xfe\x80.\xe2\x82", "a\xff", "\xfe\x80", "\xe2\x82")
	wantWords(t, repeated("a", api.MaxWords+1), slices.Repeat([]string{"a"}, api.MaxWords+1)...)
	wantWords(t, strings.Repeat("a", api.MaxKey+1), strings.Repeat("a", api.MaxKey+1))
	wantWords(t, strings.Repeat(".", 1<<16), slices.Repeat([]string{""}, 1<<16+1)...)
	wantWords(t, repeated("\xff", 1<<16), slices.Repeat([]string{"\xff"}, 1<<16)...)
}

// plainWords gathers byte by byte.
func plainWords(s string) []string {
	if s == "" {
		return nil
	}
	words := []string{""}
	for i := range len(s) {
		if s[i] == '.' {
			words = append(words, "")
		} else {
			words[len(words)-1] += s[i : i+1]
		}
	}
	return words
}

func TestWordsOfEachShortText(t *testing.T) {
	for _, s := range bytesOf(6, "a", ".", "#", "\xff", "\u00e9") {
		wantWords(t, s, plainWords(s)...)
		if s != "" && strings.Join(Words(s), ".") != s {
			t.Errorf("Words(%q) with dots between: %q", s, strings.Join(Words(s), "."))
		}
	}
}

// P5.1: Key and Pattern

// both are what Key and Pattern say alike.
func both(t *testing.T, s string, want bool) {
	t.Helper()
	wantKey(t, s, want)
	wantPattern(t, s, want)
}

func TestKeyAndPatternOfEachLength(t *testing.T) {
	both(t, "", true)
	for n := 1; n <= api.MaxKey; n++ {
		both(t, strings.Repeat("a", n), true)
	}
	for _, n := range []int{api.MaxKey + 1, api.MaxKey + 2, api.MaxBody, 1 << 20} {
		both(t, strings.Repeat("a", n), false)
	}
	// MaxKey bytes, and one more, of two words and of MaxWords words.
	long := strings.Repeat("a", api.MaxKey-2)
	both(t, long+".b", true)
	both(t, "b."+long, true)
	both(t, long+".bb", false)
	both(t, "bb."+long, false)
	full := repeated("abcd", api.MaxWords)
	both(t, full, true)
	both(t, full+"e", true)
	both(t, full+"ef", false)
}

func TestKeyAndPatternOfEachCountOfWords(t *testing.T) {
	for n := range api.MaxWords + 1 {
		both(t, repeated("a", n), true)
		wantPattern(t, repeated("*", n), true)
		wantPattern(t, repeated("#", n), true)
	}
	for _, n := range []int{api.MaxWords + 1, api.MaxWords + 2, (api.MaxKey + 1) / 2, 1000, 1 << 16} {
		both(t, repeated("a", n), false)
		both(t, repeated("*", n), false)
		both(t, repeated("#", n), false)
	}
	both(t, repeated("a", api.MaxWords)+".", false)
	both(t, "."+repeated("a", api.MaxWords), false)
	wantPattern(t, repeated("a", api.MaxWords-1)+".#", true)
	wantPattern(t, repeated("a", api.MaxWords)+".#", false)
	wantPattern(t, "#."+repeated("a", api.MaxWords), false)
}

func TestKeyAndPatternOfEachByte(t *testing.T) {
	for c := range 256 {
		b := string([]byte{byte(c)})
		want := strings.Contains(signs, b)
		for _, s := range []string{b + b, b + "a", "a" + b, "a" + b + "a", "x." + b + "a", "a" + b + ".x", "x.a" + b + "a.y"} {
			// A dot within parts words: they are right if none is empty.
			right := want || b == "." && !slices.Contains(Words(s), "")
			both(t, s, right)
		}
		alone := want || b == "*" || b == "#"
		for _, s := range []string{b, "x." + b, b + ".x", "x." + b + ".y", b + "." + b} {
			wantKey(t, s, want)
			wantPattern(t, s, alone)
		}
	}
}

func TestKeyAndPatternOfEmptyWords(t *testing.T) {
	for _, s := range []string{".", "..", "...", ".a", "a.", ".a.", "a..b", "a...b", "..a", "a..", "a.b.", ".a.b", "a.b..c.d"} {
		both(t, s, false)
		wantPattern(t, strings.ReplaceAll(s, "a", "*"), false)
		wantPattern(t, strings.ReplaceAll(s, "a", "#"), false)
	}
}

// A word of a key may be longer than a name.
func TestKeyIsNotOfNames(t *testing.T) {
	long := strings.Repeat("a", api.MaxName+1)
	both(t, long, true)
	both(t, long+"."+long, true)
	both(t, "x."+long+".y", true)
}

func TestStarsInKeysAndPatterns(t *testing.T) {
	for _, s := range []string{"*", "#", "*.*", "#.#", "*.#", "#.*", "a.*", "*.a", "a.#", "#.a", "a.*.b", "a.#.b", "*.a.#", "#.#.#.*.a"} {
		wantKey(t, s, false)
		wantPattern(t, s, true)
	}
	for _, w := range []string{"**", "##", "*#", "#*", "a*", "*a", "a#", "#a", "a*b", "a#b", "*-", "_#", "0*", "***", "*a*", "#a#"} {
		for _, s := range []string{w, "a." + w, w + ".a", "a." + w + ".b", "*." + w, w + ".#", "#." + w + ".*"} {
			both(t, s, false)
		}
	}
}

func TestKeysAndPatternsThatAreNone(t *testing.T) {
	for _, odd := range oddTexts() {
		for _, s := range []string{odd, odd + "a", "a" + odd, "a" + odd + "a", "a." + odd, odd + ".a", "a." + odd + ".b", "*." + odd, odd + ".#", odd + "*", "#" + odd} {
			both(t, s, false)
		}
		both(t, strings.Repeat("a", api.MaxKey-1)+odd, false)
	}
}

var (
	plainName    = regexp.MustCompile(`^[a-z0-9_-]{1,20}$`)
	plainKey     = regexp.MustCompile(`^([a-z0-9_-]+(\.[a-z0-9_-]+){0,11})?$`)
	plainPattern = regexp.MustCompile(`^(([a-z0-9_-]+|\*|#)(\.([a-z0-9_-]+|\*|#)){0,11})?$`)
)

func wantAsWritten(t *testing.T, s string) {
	t.Helper()
	wantName(t, s, plainName.MatchString(s))
	wantKey(t, s, len(s) <= 60 && plainKey.MatchString(s))
	wantPattern(t, s, len(s) <= 60 && plainPattern.MatchString(s))
}

func TestEachShortText(t *testing.T) {
	for _, s := range bytesOf(5, "a", "_", ".", "*", "#", "A", "\xff", "\u00e9") {
		wantAsWritten(t, s)
	}
}

func TestManyLongTexts(t *testing.T) {
	seed := uint64(5)
	for range 20000 {
		wantAsWritten(t, someText(&seed, 14, "a", "-", "b1", "xyz", "long-word", "*", "#"))
		wantAsWritten(t, someText(&seed, 14, "a", "9", "_", "abcd", "abcdef"))
	}
}

// P5.2

func TestMatchExample(t *testing.T) {
	wantMatch(t, "a.*.#", "a.b", true)
	wantMatch(t, "a.*.#", "a.b.c.d", true)
	wantMatch(t, "a.*.#", "a", false)
	wantMatch(t, "#", "", true)
}

func TestMatchOfNone(t *testing.T) {
	long := strings.Repeat("a", api.MaxKey+1)
	much := repeated("a", api.MaxWords+1)
	none := append(oddTexts(), ".", "a.", ".a", "a..b", "**", "a*", "#a", "##", long, much)
	for _, s := range none {
		wantMatch(t, s, s, false)
		wantMatch(t, "#", s, false)
		wantMatch(t, "*", s, false)
		wantMatch(t, "#.*", s, false)
		wantMatch(t, s, "a", false)
		wantMatch(t, s, "", false)
		for _, other := range none {
			wantMatch(t, s, other, false)
		}
	}
	// Too many words or bytes by a # alone, which could stand for none.
	fullWords, fullBytes := repeated("a", api.MaxWords), strings.Repeat("a", api.MaxKey)
	for _, key := range []string{fullWords, fullBytes} {
		wantMatch(t, key, key, true)
		wantMatch(t, key+".#", key, false)
		wantMatch(t, "#."+key, key, false)
	}
	wantMatch(t, repeated("#", api.MaxWords+1), "", false)
	wantMatch(t, repeated("#", api.MaxWords+1), "a", false)
	// A pattern with * or # is no key, even for itself.
	for _, s := range []string{"*", "#", "a.*", "a.#", "*.#", "#.a"} {
		wantMatch(t, s, s, false)
		wantMatch(t, "#", s, false)
		wantMatch(t, "*", s, false)
	}
}

func TestMatchOfEmptyTexts(t *testing.T) {
	wantMatch(t, "", "", true)
	wantMatch(t, "", "a", false)
	wantMatch(t, "", "a.b", false)
	wantMatch(t, "a", "", false)
	wantMatch(t, "*", "", false)
	wantMatch(t, "#", "", true)
	wantMatch(t, "#.#", "", true)
	wantMatch(t, "#.*", "", false)
	wantMatch(t, "*.#", "", false)
	wantMatch(t, "#.a", "", false)
	wantMatch(t, repeated("#", api.MaxWords), "", true)
}

func TestMatchOfPlainWords(t *testing.T) {
	wantMatch(t, "a", "a", true)
	wantMatch(t, "a", "b", false)
	wantMatch(t, "a", "aa", false)
	wantMatch(t, "aa", "a", false)
	wantMatch(t, "a", "a.a", false)
	wantMatch(t, "a.a", "a", false)
	wantMatch(t, "a.b", "a.b", true)
	wantMatch(t, "a.b", "b.a", false)
	wantMatch(t, "a.b", "ab", false)
	wantMatch(t, "ab", "a.b", false)
	wantMatch(t, "a-b.c_d.0", "a-b.c_d.0", true)
	wantMatch(t, "a-b.c_d.0", "a-b.c_d.1", false)
}

func TestMatchOfOneWord(t *testing.T) {
	wantMatch(t, "*", "a", true)
	wantMatch(t, "*", "abc-_09", true)
	wantMatch(t, "*", "a.b", false)
	wantMatch(t, "*.*", "a", false)
	wantMatch(t, "*.*", "a.b", true)
	wantMatch(t, "*.*", "a.b.c", false)
	wantMatch(t, "a.*", "a.b", true)
	wantMatch(t, "a.*", "a", false)
	wantMatch(t, "a.*", "b.a", false)
	wantMatch(t, "*.a", "b.a", true)
	wantMatch(t, "*.a", "a.b", false)
	wantMatch(t, "a.*.c", "a.b.c", true)
	wantMatch(t, "a.*.c", "a.c", false)
	wantMatch(t, "a.*.c", "a.b.b.c", false)
	wantMatch(t, "*", strings.Repeat("a", api.MaxKey), true)
}

// Each case with # for no word, for one and for many.
func TestMatchOfAnyNumberOfWords(t *testing.T) {
	for _, c := range []struct {
		pattern string
		is, no  []string
	}{
		{"#", []string{"", "a", "a.b", "a.b.c"}, nil},
		{"#.z", []string{"z", "a.z", "a.b.z", "z.z", "a.b.c.d.z"}, []string{"", "a", "z.a", "a.b", "z.b.a"}},
		{"a.#", []string{"a", "a.b", "a.b.c", "a.a", "a.b.c.d.e"}, []string{"", "b", "b.a", "aa", "b.a.c"}},
		{"a.#.z", []string{"a.z", "a.b.z", "a.b.c.z", "a.z.z", "a.a.z", "a.z.a.z"}, []string{"", "a", "z", "z.a", "a.b", "a.z.b", "b.a.z", "a.b.z.c"}},
		{"#.m.#", []string{"m", "a.m", "m.a", "a.m.b", "a.b.m.c.d", "m.m"}, []string{"", "a", "a.b", "a.b.c"}},
		{"#.#", []string{"", "a", "a.b", "a.b.c"}, nil},
		{"#.#.a", []string{"a", "b.a", "b.c.a"}, []string{"", "b", "a.b"}},
		{"a.#.#", []string{"a", "a.b", "a.b.c"}, []string{"", "b", "b.a"}},
		{"#.*", []string{"a", "a.b", "a.b.c"}, []string{""}},
		{"*.#", []string{"a", "a.b", "a.b.c"}, []string{""}},
		{"*.#.*", []string{"a.b", "a.b.c", "a.b.c.d"}, []string{"", "a"}},
		{"#.*.#", []string{"a", "a.b", "a.b.c"}, []string{""}},
		{"#.*.#.*.#", []string{"a.b", "a.b.c", "a.b.c.d"}, []string{"", "a"}},
		{"a.#.b.#.c", []string{"a.b.c", "a.x.b.c", "a.b.x.c", "a.x.y.b.z.c", "a.b.b.c", "a.c.b.c"}, []string{"a.c", "a.b", "b.c", "a.c.b", "a.b.c.x", "x.a.b.c"}},
		{"#.a.#.a.#.a.#", []string{"a.a.a", "x.a.a.a", "a.x.a.y.a.z", "a.a.a.a"}, []string{"a.a", "a", "", "x.a.y.a.z"}},
		{"#.a.b", []string{"a.b", "a.a.b", "a.b.a.b", "a.b.c.a.b"}, []string{"a.b.a", "b", "a.c.b"}},
	} {
		for _, key := range c.is {
			wantMatch(t, c.pattern, key, true)
		}
		for _, key := range c.no {
			wantMatch(t, c.pattern, key, false)
		}
	}
}

func TestMatchOfAsManyWordsAsMayBe(t *testing.T) {
	full := repeated("a", api.MaxWords)
	less := repeated("a", api.MaxWords-1)
	hashes := repeated("#", api.MaxWords)
	stars := repeated("*", api.MaxWords)
	wantMatch(t, full, full, true)
	wantMatch(t, full, less, false)
	wantMatch(t, less, full, false)
	wantMatch(t, stars, full, true)
	wantMatch(t, stars, less, false)
	wantMatch(t, "*."+less, full, true)
	wantMatch(t, less+".*", full, true)
	for n := range api.MaxWords + 1 {
		wantMatch(t, hashes, repeated("a", n), true)
		wantMatch(t, "#", repeated("a", n), true)
		wantMatch(t, repeated("#", api.MaxWords-1)+".b", repeated("a", n), false)
		wantMatch(t, "b."+repeated("#", api.MaxWords-1), repeated("a", n), false)
		wantMatch(t, repeated("#.a", api.MaxWords/2), repeated("a", n), n >= api.MaxWords/2)
		wantMatch(t, repeated("#.*", api.MaxWords/2), repeated("a", n), n >= api.MaxWords/2)
		wantMatch(t, repeated("*.#", api.MaxWords/2), repeated("a", n), n >= api.MaxWords/2)
	}
	wantMatch(t, "#."+less, less, true)
	wantMatch(t, less+".#", less, true)
	wantMatch(t, "#."+less, full, true)
	wantMatch(t, less+".#", full, true)
	long := strings.Repeat("a", api.MaxKey)
	wantMatch(t, long, long, true)
	wantMatch(t, long, long[1:]+"b", false)
	wantMatch(t, long, long[1:], false)
}

// P5.3

func TestOverExample(t *testing.T) {
	wantOver(t, "a.#", "a.*", true)
	wantOver(t, "a.*", "a.#", false)
}

func TestOverOfNone(t *testing.T) {
	long := strings.Repeat("a", api.MaxKey+1)
	much := repeated("#", api.MaxWords+1)
	none := append(oddTexts(), ".", "a.", ".a", "a..b", "**", "a*", "#a", "##", "*#", long, much)
	for _, s := range none {
		wantOver(t, s, s, false)
		for _, p := range []string{"", "a", "*", "#", "#.#", "a.#"} {
			wantOver(t, s, p, false)
			wantOver(t, p, s, false)
		}
		for _, other := range none {
			wantOver(t, s, other, false)
		}
	}
}

// Too many words or bytes by a # alone, which could stand for none.
func TestOverOfTooMuchByAHash(t *testing.T) {
	for _, p := range []string{repeated("a", api.MaxWords), repeated("*", api.MaxWords), repeated("#", api.MaxWords), strings.Repeat("a", api.MaxKey)} {
		wantOver(t, p, p, true)
		wantOver(t, "#", p, true)
		for _, more := range []string{p + ".#", "#." + p} {
			wantOver(t, more, p, false)
			wantOver(t, "#", more, false)
			wantOver(t, more, more, false)
		}
	}
}

func TestOverOfEmptyTexts(t *testing.T) {
	wantOver(t, "", "", true)
	wantOver(t, "#", "", true)
	wantOver(t, "#.#", "", true)
	wantOver(t, "*", "", false)
	wantOver(t, "a", "", false)
	wantOver(t, "*.#", "", false)
	wantOver(t, "", "a", false)
	wantOver(t, "", "*", false)
	wantOver(t, "", "#", false)
}

func TestOverOfAnyNumberOfWords(t *testing.T) {
	for _, c := range []struct {
		a      string
		is, no []string
	}{
		{"#", []string{"", "a", "a.b", "*", "#", "*.#", "#.*", "#.#", "a.*.#.b", "#.a.#"}, nil},
		{"a.#", []string{"a", "a.b", "a.*", "a.#", "a.b.c", "a.*.*", "a.#.#", "a.*.#.b", "a.#.a"}, []string{"", "b", "*", "#", "*.a", "#.a", "*.#", "#.a.#"}},
		{"#.a", []string{"a", "b.a", "*.a", "#.a", "a.a", "#.#.a", "*.#.b.a"}, []string{"", "b", "*", "#", "a.*", "a.#", "#.a.#", "a.b"}},
		{"a.#.b", []string{"a.b", "a.c.b", "a.*.b", "a.#.b", "a.#.*.c.b", "a.a.b.b"}, []string{"a", "b", "a.#", "#.b", "*.b", "a.*", "#", "*.*", "b.#.a"}},
		{"#.a.#", []string{"a", "a.#", "#.a", "#.a.#", "*.a.*", "a.*", "b.a.c"}, []string{"", "*", "#", "b.#", "#.b.#", "*.*"}},
		{"#.#", []string{"", "a", "*", "#", "#.#", "a.b.c", "#.#.#"}, nil},
		{"#.*", []string{"a", "*", "a.b", "#.*", "#.a", "#.#.*", "*.*"}, []string{"", "#", "*.#", "a.#", "#.#"}},
		{"*.#", []string{"a", "*", "a.b", "*.#", "a.#", "*.#.#", "*.*"}, []string{"", "#", "#.*", "#.a", "#.#"}},
	} {
		for _, b := range c.is {
			wantOver(t, c.a, b, true)
		}
		for _, b := range c.no {
			wantOver(t, c.a, b, false)
		}
	}
}

func TestOverOfOneWord(t *testing.T) {
	for _, c := range []struct {
		a, b string
		want bool
	}{
		{"*", "a", true},
		{"*", "abc-_9", true},
		{"*", "*", true},
		{"*", "#", false},
		{"*", "a.b", false},
		{"*", "*.*", false},
		{"*.*", "#", false},
		{"*.*", "#.#", false},
		{"*.*", "a.*", true},
		{"*.*", "*.a", true},
		{"*.*", "*", false},
		{"a.*", "a.b", true},
		{"a.*", "a.*", true},
		{"a.*", "a.#", false},
		{"a.*", "*.a", false},
		{"a.*.c", "a.#.c", false},
		{"a.*.c", "a.b.c", true},
		{"a.*.c", "a.*.c", true},
		{"a.*.c", "a.c", false},
		// A word stands for itself alone.
		{"a", "a", true},
		{"a", "b", false},
		{"a", "aa", false},
		{"aa", "a", false},
		{"a", "*", false},
		{"a", "#", false},
		{"a.b", "a.b", true},
		{"a.b", "b.a", false},
		{"a.b", "a.*", false},
		{"a.b", "a.#", false},
		{"a.b", "*.b", false},
		{"a.b", "#.b", false},
		{"a.b", "a.#.b", false},
		{"a.b", "a", false},
		{"a", "a.b", false},
	} {
		wantOver(t, c.a, c.b, c.want)
	}
}

// By the words alone: a fits what b fits here too, and it is not told.
func TestOverSaysNoOfSomeThatDo(t *testing.T) {
	wantOver(t, "#.*", "*.#", false)
	wantOver(t, "*.#", "#.*", false)
	wantOver(t, "#.*.#", "*.#", true)
	wantOver(t, "#.*.*", "*.#.*", false)
	wantOver(t, "*.#.*", "*.*.#", false)
}

func TestOverOfAsManyWordsAsMayBe(t *testing.T) {
	hashes := repeated("#", api.MaxWords)
	stars := repeated("*", api.MaxWords)
	full := repeated("a", api.MaxWords)
	for _, a := range []string{hashes, "#", "#.#"} {
		for _, b := range []string{hashes, stars, full, "", "#"} {
			wantOver(t, a, b, true)
		}
	}
	wantOver(t, stars, full, true)
	wantOver(t, stars, stars, true)
	wantOver(t, stars, hashes, false)
	wantOver(t, full, stars, false)
	wantOver(t, full, hashes, false)
	wantOver(t, full, full, true)
	wantOver(t, repeated("#.*", api.MaxWords/2), stars, true)
	wantOver(t, repeated("#.*", api.MaxWords/2), hashes, false)
	wantOver(t, repeated("#.*", api.MaxWords/2), repeated("#.*", api.MaxWords/2), true)
	wantOver(t, repeated("#", api.MaxWords-1)+".a", full, true)
	wantOver(t, repeated("#", api.MaxWords-1)+".a", stars, false)
	wantOver(t, repeated("#", api.MaxWords-1)+".a", hashes, false)
}

// Match and Over, held against a plain reckoning

// tried tells by trying each number of words for each # whether words stand for a pattern's; one tells it of a word each.
func tried(pattern, words []string, one func(p, w string) bool) bool {
	if len(pattern) == 0 {
		return len(words) == 0
	}
	if pattern[0] != "#" {
		return len(words) > 0 && one(pattern[0], words[0]) && tried(pattern[1:], words[1:], one)
	}
	for n := range len(words) + 1 {
		if tried(pattern[1:], words[n:], one) {
			return true
		}
	}
	return false
}

// triedMatch is Match by the chapter's words, of a pattern and a key that are.
func triedMatch(pattern, key string) bool {
	return tried(plainWords(pattern), plainWords(key), func(p, w string) bool { return p == "*" || p == w })
}

// triedOver is Over by the chapter's words, of patterns that are.
func triedOver(a, b string) bool {
	return tried(plainWords(a), plainWords(b), func(p, w string) bool {
		switch {
		case w == "#":
			return false
		case p == "*":
			return true
		}
		return p == w
	})
}

func TestMatchOfEachShortTexts(t *testing.T) {
	patterns := textsOf(4, "a", "b", "*", "#")
	keys := textsOf(5, "a", "b", "c")
	for _, p := range patterns {
		for _, k := range keys {
			wantMatch(t, p, k, triedMatch(p, k))
		}
	}
}

func TestOverOfEachShortTexts(t *testing.T) {
	patterns := textsOf(4, "a", "b", "*", "#")
	for _, a := range patterns {
		for _, b := range patterns {
			wantOver(t, a, b, triedOver(a, b))
		}
	}
}

// Of texts that may be anything: what is none fits nothing, and what is goes by the reckoning.
func TestMatchAndOverOfEachShortBytes(t *testing.T) {
	texts := bytesOf(3, "a", ".", "*", "#", "\xff")
	for _, p := range texts {
		for _, s := range texts {
			right := plainPattern.MatchString(p)
			wantMatch(t, p, s, right && plainKey.MatchString(s) && triedMatch(p, s))
			wantOver(t, p, s, right && plainPattern.MatchString(s) && triedOver(p, s))
		}
	}
}

// asRegexp is a pattern's other form: each word of a text ends with a dot there.
func asRegexp(pattern, star, hash string) *regexp.Regexp {
	var b strings.Builder
	for _, w := range plainWords(pattern) {
		switch w {
		case "*":
			b.WriteString(star)
		case "#":
			b.WriteString(hash)
		default:
			b.WriteString(regexp.QuoteMeta(w) + `\.`)
		}
	}
	return regexp.MustCompile(`^` + b.String() + `$`)
}

// ended is a text each of whose words ends with a dot.
func ended(s string) string {
	if s == "" {
		return ""
	}
	return s + "."
}

func TestMatchAndOverOfManyLongTexts(t *testing.T) {
	seed := uint64(7)
	fits, overs := 0, 0
	for range 4000 {
		a := someText(&seed, api.MaxWords, "a", "b", "*", "#", "#")
		key, over := asRegexp(a, `[ab]\.`, `([ab]\.)*`), asRegexp(a, `[ab*]\.`, `([ab*#]\.)*`)
		for range 10 {
			k, b := someText(&seed, api.MaxWords, "a", "b"), someText(&seed, api.MaxWords, "a", "b", "*", "#")
			isFit, isOver := key.MatchString(ended(k)), over.MatchString(ended(b))
			wantMatch(t, a, k, isFit)
			wantOver(t, a, b, isOver)
			if isFit {
				fits++
			}
			if isOver {
				overs++
			}
		}
	}
	if fits < 1000 || overs < 1000 {
		t.Errorf("%d fit and %d are over: too few to tell anything", fits, overs)
	}
}

// P5.4

func TestPatternOfPlainWordsFitsItselfAlone(t *testing.T) {
	keys := textsOf(5, "a", "b", "ab")
	for _, p := range keys {
		for _, k := range keys {
			wantMatch(t, p, k, p == k)
			wantOver(t, p, k, p == k)
		}
	}
}

func TestOverMeansThatItFitsAll(t *testing.T) {
	patterns := textsOf(4, "a", "b", "*", "#")
	keys := textsOf(5, "a", "b", "c")
	fits := make([][]bool, len(patterns))
	for i, p := range patterns {
		for _, k := range keys {
			fits[i] = append(fits[i], Match(p, k))
		}
	}
	for i, a := range patterns {
		for j, b := range patterns {
			if !Over(a, b) {
				continue
			}
			for n, k := range keys {
				if fits[j][n] && !fits[i][n] {
					t.Fatalf("Over(%q, %q), but only the second fits %q", a, b, k)
				}
			}
		}
	}
}

// Of a key, Over and Match are the same; each pattern is over itself.
func TestOverOfKeysAndOfItself(t *testing.T) {
	keys := textsOf(4, "a", "b", "c")
	for _, p := range textsOf(4, "a", "b", "*", "#") {
		wantOver(t, p, p, true)
		wantOver(t, "#", p, true)
		for _, k := range keys {
			wantOver(t, p, k, Match(p, k))
		}
	}
}

// R1 and R3

func TestLongTextsEnd(t *testing.T) {
	for _, piece := range []string{"a", ".", "a.", "#.", "*.", "#", "\xff", "\u00e9."} {
		s := strings.Repeat(piece, 1<<18)
		if Name(s) || Key(s) || Pattern(s) || Match(s, s) || Match("#", s) || Match(s, "a") || Over(s, s) || Over("#", s) || Over(s, "a") {
			t.Errorf("%q, many times, is taken", piece)
		}
		if got, want := len(Words(s)), strings.Count(s, ".")+1; got != want {
			t.Errorf("%q, many times: %d words, want %d", piece, got, want)
		}
	}
}

// scribble writes into a list and into its spare room.
func scribble(l []string) {
	l = l[:cap(l)]
	for i := range l {
		l[i] = "scribbled"
	}
}

func TestWordsAreNewMemory(t *testing.T) {
	for _, s := range []string{"", "a", ".", "a.b", "a..b.", "a.b.c", "a.b.c.d.e", repeated("x", 9), repeated("", 40)} {
		want := plainWords(s)
		first, second := Words(s), Words(s)
		scribble(second)
		scribble(append(second[:0], "another"))
		if !slices.Equal(first, want) {
			t.Errorf("Words(%q): changed by another answer: %q", s, first)
		}
		longer, other := append(first, "one"), append(Words(s), "other")
		if longer[len(want)] != "one" || other[len(want)] != "other" {
			t.Errorf("Words(%q): spare room is shared: %q, %q", s, longer, other)
		}
		scribble(longer)
		scribble(first)
		wantWords(t, s, want...)
	}
}

// R4: what was asked before says nothing.
func TestAnswersStay(t *testing.T) {
	ask := func() []bool {
		return []bool{Name("a"), Name("A"), Key("a.b"), Key("a.*"), Pattern("a.*"), Pattern("a.**"), Match("a.#", "a"), Match("a.*", "a"), Over("a.#", "a.*"), Over("a.*", "a.#")}
	}
	want := []bool{true, false, true, false, true, false, true, false, true, false}
	for range 3 {
		if got := ask(); !slices.Equal(got, want) {
			t.Errorf("%v, want %v", got, want)
		}
	}
}
