package text_test

import (
	"math"
	"strings"
	"testing"

	"comptoir/text"
)

// firsts are the first characters of one, two, three and four bytes, and the one behind the last of all.
var firsts = [...]int{0, 128, 2_048, 65_536, 1_114_112}

// form is character c in n bytes, be it that it has fewer, or that there is none such.
func form(c, n int) string {
	if n == 1 {
		return string([]byte{byte(c)})
	}
	b := make([]byte, n)
	for i := n - 1; i > 0; i-- {
		b[i] = 128 | byte(c&63)
		c >>= 6
	}
	b[0] = byte(255)<<(8-n) | byte(c)
	return string(b)
}

// shortest is how many bytes c takes at least.
func shortest(c int) int {
	for n := 1; n < 4; n++ {
		if c < firsts[n] {
			return n
		}
	}
	return 4
}

// one is c in its shortest form.
func one(c int) string {
	return form(c, shortest(c))
}

// lets tells whether the document lets character c.
func lets(c int) bool {
	switch {
	case c == 9 || c == 10 || c == 13:
		return true
	case c < 32 || c > 1_114_111:
		return false
	case c >= 55_296 && c <= 57_343:
		return false
	}
	return c != 65_534 && c != 65_535
}

// counted is how many characters s has, told by its bytes one by one; -1 if it is no text.
func counted(s string) int {
	n := 0
	for len(s) > 0 {
		width := led(s[0])
		if width == 0 || width > len(s) {
			return -1
		}
		c := int(s[0])
		if width > 1 {
			c &= 127 >> width
		}
		for i := 1; i < width; i++ {
			if s[i]>>6 != 2 {
				return -1
			}
			c = c<<6 | int(s[i]&63)
		}
		if shortest(c) != width || !lets(c) {
			return -1
		}
		s = s[width:]
		n++
	}
	return n
}

// led is how many bytes the character has that begins by x; 0 if none does.
func led(x byte) int {
	switch {
	case x < 128:
		return 1
	case x>>5 == 6:
		return 2
	case x>>4 == 14:
		return 3
	case x>>3 == 30:
		return 4
	}
	return 0
}

// texts are texts of all kinds, whose blanks, tabs and ends of lines stand everywhere.
func texts() []string {
	return []string{"", "a", " ", "\t", "\n", "\r\n", "~", "\x7f", "a b", " a ", "é", "€", "😀", "é€😀", "<a b=\"1\">&amp;</a>", "\u0080", "\u07ff", "\u0800", "\ud7ff", "\ue000", "\ufffd", "\U00010000", "\U0010ffff", "\u00a0\u2003\ufeff", strings.Repeat("aé€😀", 1_000)}
}

// wrong are rows of bytes that are no texts, whatever text stands beside them.
func wrong() []string {
	return []string{"\x00", "\x08", "\x0b", "\x0c", "\x0e", "\x1f", "\x80", "\xbf", "\xc0", "\xc1", "\xf5", "\xf8", "\xfe", "\xff", "\xc0\x80", "\xc1\xbf", "\xe0\x80\x80", "\xe0\x9f\xbf", "\xf0\x80\x80\x80", "\xf0\x8f\xbf\xbf", "\xf8\x88\x80\x80\x80", "\xed\xa0\x80", "\xed\xbf\xbf", "\xed\xa0\xbd\xed\xb8\x80", "\xf4\x90\x80\x80", "\xf7\xbf\xbf\xbf", "\ufffe", "\uffff", "\xff\xfea"}
}

// tells fails unless Utf8 and Runes tell so many characters of s, or, of -1, that it is none.
func tells(t *testing.T, s string, n int) {
	t.Helper()
	if got, runes := text.Utf8(s), text.Runes(s); got != (n >= 0) || runes != max(n, 0) {
		t.Errorf("of %+q: Utf8 %v, Runes %d; want %d", s, got, runes, n)
	}
}

func TestUtf8TakesRowsOfCharacters(t *testing.T) {
	for i, r := range []struct {
		s string
		n int
	}{
		{"", 0},
		{"a", 1},
		{"comptoir", 8},
		{"a b", 3},
		{" ", 1},
		{"\t\n\r ", 4},
		{"\r\n", 2},
		{"\x7f", 1},
		{"é", 1},
		{"é€😀", 3},
		{"e\u0301", 2},
		{"\u0080\u009f\u00a0", 3},
		{"\ufeffa", 2},
		{"\ufdd0\U0001fffe\U0001ffff\U0010fffe", 4},
		{strings.Repeat("é", 100_000), 100_000},
	} {
		if got, runes := text.Utf8(r.s), text.Runes(r.s); !got || runes != r.n {
			t.Errorf("row %d: Utf8 %v, Runes %d; want %d", i, got, runes, r.n)
		}
	}
}

func TestUtf8OfEachByteAlone(t *testing.T) {
	for x := range 256 {
		want := -1
		if x == 9 || x == 10 || x == 13 || x >= 32 && x <= 127 {
			want = 1
		}
		tells(t, string([]byte{byte(x)}), want)
	}
}

func TestUtf8OfTwoBytes(t *testing.T) {
	for x := range 256 {
		for y := range 256 {
			s := string([]byte{byte(x), byte(y)})
			tells(t, s, counted(s))
		}
	}
}

func TestUtf8OfThreeAndFourBytesAroundTheBoundsOfEachByte(t *testing.T) {
	edges := []byte{0, 9, 31, 32, 65, 127, 128, 129, 143, 144, 159, 160, 189, 190, 191, 192, 193, 194, 223, 224, 225, 236, 237, 238, 239, 240, 241, 243, 244, 245, 247, 248, 251, 252, 254, 255}
	for _, a := range edges {
		for _, b := range edges {
			for _, c := range edges {
				s := string([]byte{a, b, c})
				tells(t, s, counted(s))
				for _, d := range edges {
					s := string([]byte{a, b, c, d})
					tells(t, s, counted(s))
				}
			}
		}
	}
}

func TestUtf8OfEachCharacterInEachForm(t *testing.T) {
	for c := range 1<<21 - 1 {
		for n := shortest(c); n <= 4; n++ {
			want := lets(c) && n == shortest(c)
			if got := text.Utf8(form(c, n)); got != want {
				t.Errorf("Utf8 of character %d in %d bytes: %v", c, n, got)
			}
		}
	}
}

func TestUtf8OfTheCharactersThatAreNamed(t *testing.T) {
	for _, r := range []struct {
		low, top, n int
	}{
		{0, 8, -1},
		{9, 10, 1},
		{11, 12, -1},
		{13, 13, 1},
		{14, 31, -1},
		{32, 55_295, 1},
		{55_296, 57_343, -1},
		{57_344, 65_533, 1},
		{65_534, 65_535, -1},
		{65_536, 65_537, 1},
		{131_070, 131_071, 1},
		{1_114_110, 1_114_111, 1},
		{1_114_112, 1_114_200, -1},
		{2_097_151, 2_097_151, -1},
	} {
		for c := r.low; c <= r.top; c++ {
			tells(t, one(c), r.n)
			tells(t, "a"+one(c)+"b", max(3*r.n, -1))
		}
	}
}

func TestUtf8OfTheFirstAndLastCharactersCut(t *testing.T) {
	for n := 1; n <= 4; n++ {
		for _, c := range []int{max(firsts[n-1], 32), firsts[n] - 1} {
			if c == 65_535 {
				c = 65_533
			}
			s := one(c)
			if len(s) != n {
				t.Fatalf("character %d has %d bytes", c, len(s))
			}
			tells(t, s, 1)
			for cut := 1; cut < n; cut++ {
				for _, part := range []string{s[:n-cut], s[cut:], s[:n-cut] + "a", "a" + s[:n-cut], "a" + s[cut:], s[:n-cut] + s, s + s[cut:], s + s[:n-cut]} {
					tells(t, part, -1)
				}
			}
		}
	}
}

func TestUtf8OfLongerFormsThanNeedBe(t *testing.T) {
	for _, c := range []int{0, 9, 32, 47, 65, 127, 128, 233, 2_047, 2_048, 8_364, 65_533} {
		for n := shortest(c) + 1; n <= 4; n++ {
			tells(t, form(c, n), -1)
			tells(t, "a"+form(c, n), -1)
			tells(t, form(c, n)+"a", -1)
		}
	}
	for _, s := range []string{"\xf8\x88\x80\x80\x80", "\xfc\x84\x80\x80\x80\x80", "\xfe\x80\x80\x80\x80\x80\x80"} {
		tells(t, s, -1)
	}
}

func TestUtf8OfBytesThatCarryOn(t *testing.T) {
	for _, s := range []string{"é", "€", "😀", one(128), one(65_536), one(1_114_111)} {
		for x := 128; x < 192; x++ {
			more := string([]byte{byte(x)})
			tells(t, more+s, -1)
			tells(t, s+more, -1)
			tells(t, "a"+more+s, -1)
		}
		for i := 1; i < len(s); i++ {
			for _, x := range []string{"a", " ", "\t", "\x00", "\x7f", "\xc2", "\xe1", "\xf0", "\xff"} {
				tells(t, s[:i]+x+s[i+1:], -1)
				tells(t, s[:i]+x+s[i:], -1)
			}
		}
	}
}

func TestOneWrongPartMakesAllWrong(t *testing.T) {
	for _, bad := range wrong() {
		for _, s := range texts() {
			for _, x := range []string{bad, bad + s, s + bad, s + bad + s} {
				tells(t, x, -1)
				if text.Plain(x, math.MinInt, math.MaxInt) {
					t.Errorf("Plain of %+q: true", x)
				}
				if text.Ans(x, math.MaxInt) || text.Aln(x, 0, math.MaxInt) {
					t.Errorf("Ans or Aln of %+q: true", x)
				}
			}
		}
	}
}

func TestTextsOneBehindTheOtherAreATextOfAsManyCharacters(t *testing.T) {
	for _, a := range texts() {
		for _, b := range texts() {
			tells(t, a+b, text.Runes(a)+text.Runes(b))
			n, m := text.Runes(a), text.Runes(b)
			whole := text.Plain("."+a+".", n+2, n+2) && text.Plain("."+b+".", m+2, m+2)
			if got := text.Plain("."+a+b+".", n+m+2, n+m+2); got != whole {
				t.Errorf("Plain of %+q and %+q together: %v", a, b, got)
			}
		}
	}
	// Parts that are none are none together, either, unless a character was cut there.
	if s := "€"; text.Utf8(s[:1]) || text.Utf8(s[1:]) || !text.Utf8(s[:1]+s[1:]) {
		t.Error("a character that is cut, or joined again, is told wrongly")
	}
}

func TestPlainCountsCharacters(t *testing.T) {
	for _, sign := range []string{"a", "é", "€", "😀", "\x7f", "\u00a0"} {
		for n := 0; n <= 12; n++ {
			s := strings.Repeat(sign, n)
			for low := -3; low <= 14; low++ {
				for top := -3; top <= 14; top++ {
					if got := text.Plain(s, low, top); got != (low <= n && n <= top) {
						t.Errorf("Plain of %+q from %d to %d: %v", s, low, top, got)
					}
				}
			}
		}
	}
}

func TestPlainOfBlanksAndWhatIsBelowThem(t *testing.T) {
	for i, r := range []struct {
		s    string
		want bool
	}{
		{"", true},
		{" ", false},
		{"  ", false},
		{" a", false},
		{"a ", false},
		{" a ", false},
		{"  a", false},
		{"a  ", false},
		{"a b", true},
		{"a  b", true},
		{"a b c", true},
		{" é", false},
		{"é ", false},
		{"é é", true},
		{"!", true},
		{"a!", true},
		{"\u00a0", true},
		{"\u00a0a\u00a0", true},
		{"\u3000a", true},
		{"\ufeff", true},
		{"\u0085", true},
		{"\u2028", true},
		{"Ġ", true},
		{"ȉ", true},
		{"a\x7fb", true},
	} {
		if got := text.Plain(r.s, 0, 9); got != r.want {
			t.Errorf("row %d: %v", i, got)
		}
	}
	for x := range 32 {
		low := string([]byte{byte(x)})
		for _, s := range []string{low, "a" + low, low + "a", "a" + low + "b", "é" + low + "é"} {
			if text.Plain(s, 0, 9) {
				t.Errorf("Plain of %+q: true", s)
			}
		}
	}
}

func TestAnsTakesPrintedBytes(t *testing.T) {
	for x := range 256 {
		s := string([]byte{byte(x)})
		want := x >= 32 && x <= 126
		for _, r := range []string{s, "a" + s, s + "a", "a" + s + "b"} {
			if got := text.Ans(r, 3); got != want {
				t.Errorf("Ans of %+q: %v", r, got)
			}
		}
	}
	for i, r := range []struct {
		s    string
		want bool
	}{
		{" ", true},
		{" a ", true},
		{"   ", true},
		{"é", false},
		{"€", false},
		{"a\u00a0", false},
		{"\xff", false},
		{" !\"#$%&'()*+,-./:;<=>?@[\\]^_`{|}~", true},
	} {
		if got := text.Ans(r.s, 99); got != r.want {
			t.Errorf("row %d: %v", i, got)
		}
	}
}

func TestAnsCountsBytesFromOneOn(t *testing.T) {
	for n := 0; n <= 20; n++ {
		s := strings.Repeat("x", n)
		for _, top := range []int{math.MinInt, -20, -2, -1, 0, 1, 2, 7, 8, 9, 14, 15, 16, 19, 20, 21, math.MaxInt} {
			if got := text.Ans(s, top); got != (1 <= n && n <= top) {
				t.Errorf("Ans of %d bytes, at most %d: %v", n, top, got)
			}
		}
	}
}

func TestAlnTakesDigitsAndLetters(t *testing.T) {
	const taken = "0123456789ABCDEFGHIJKLMNOPQRSTUVWXYZabcdefghijklmnopqrstuvwxyz"
	for x := range 256 {
		s := string([]byte{byte(x)})
		want := strings.Contains(taken, s)
		for _, r := range []string{s, "a" + s, s + "0", "Z" + s + "9"} {
			if got := text.Aln(r, 1, 3); got != want {
				t.Errorf("Aln of %+q: %v", r, got)
			}
		}
	}
	if !text.Aln(taken, len(taken), len(taken)) {
		t.Error("Aln of all digits and letters: false")
	}
	for _, s := range []string{"é", "٣", "１", "Ａ", "ß", "ı", "\u212a", "a b", "a-b", "a_b"} {
		if text.Aln(s, 0, 9) {
			t.Errorf("Aln of %+q: true", s)
		}
	}
}

func TestAlnCountsBytes(t *testing.T) {
	for n := 0; n <= 12; n++ {
		s := strings.Repeat("a1Z", 4)[:n]
		for low := -3; low <= 14; low++ {
			for top := -3; top <= 14; top++ {
				if got := text.Aln(s, low, top); got != (low <= n && n <= top) {
					t.Errorf("Aln of %q from %d to %d: %v", s, low, top, got)
				}
			}
		}
	}
}

func TestFarBounds(t *testing.T) {
	for i, r := range []struct {
		low, top int
		want     bool
	}{
		{math.MinInt, math.MaxInt, true},
		{math.MaxInt, math.MinInt, false},
		{math.MinInt, math.MinInt, false},
		{math.MaxInt, math.MaxInt, false},
		{0, math.MaxInt, true},
		{math.MinInt, 4, true},
		{math.MinInt, 3, false},
		{5, math.MaxInt, false},
		{4, 4, true},
		{5, 3, false},
		{4, 3, false},
		{-1, -1, false},
	} {
		if got := text.Aln("12ab", r.low, r.top); got != r.want {
			t.Errorf("row %d: Aln %v", i, got)
		}
		if got := text.Plain("1é€😀", r.low, r.top); got != r.want {
			t.Errorf("row %d: Plain %v", i, got)
		}
	}
	if long := strings.Repeat("7", 100_000); !text.Plain(long, 100_000, 100_000) || !text.Ans(long, 100_000) || !text.Aln(long, 100_000, 100_000) {
		t.Error("many bytes are refused")
	}
}

func TestOfNoByte(t *testing.T) {
	tells(t, "", 0)
	if !text.Plain("", 0, 0) || text.Plain("", 1, 5) || text.Plain("", 0, -1) || text.Plain("", 2, 1) {
		t.Error("Plain of no byte is wrong")
	}
	if text.Ans("", 0) || text.Ans("", 5) || text.Ans("", -1) {
		t.Error("Ans of no byte: true")
	}
	if !text.Aln("", 0, 0) || text.Aln("", 1, 5) || text.Aln("", 0, -1) || text.Aln("", 2, 1) {
		t.Error("Aln of no byte is wrong")
	}
}
