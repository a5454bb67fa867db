package digits_test

import (
	"bytes"
	"math"
	"strconv"
	"strings"
	"testing"

	"comptoir/api"
	"comptoir/digits"
)

// row is n digits, so that those near each other differ.
func row(n int) string {
	return strings.Repeat("1234567890", n/10+1)[:n]
}

// unlike are bytes and characters that are near digits, or look like some, but are none.
func unlike() []string {
	return []string{"/", ":", " ", "-", "+", ".", ",", "_", "A", "F", "a", "f", "x", "e", "\x00", "\t", "\n", "\x7f", "\x80", "\xb1", "\xff", "٣", "１", "²"}
}

// spoilt is s with x in place of the digit at i.
func spoilt(s string, i int, x string) string {
	return s[:i] + x + s[i+1:]
}

func TestRightCountsBytes(t *testing.T) {
	for n := 0; n <= 12; n++ {
		for low := -2; low <= 14; low++ {
			for top := -2; top <= 14; top++ {
				want := low <= n && n <= top
				if got := digits.Right(row(n), low, top); got != want {
					t.Errorf("Right of %d digits from %d to %d: %v", n, low, top, got)
				}
			}
		}
	}
}

func TestRightOfFarBounds(t *testing.T) {
	for i, r := range []struct {
		low, top int
		want     bool
	}{
		{math.MinInt, math.MaxInt, true},
		{math.MaxInt, math.MinInt, false},
		{math.MinInt, math.MinInt, false},
		{math.MaxInt, math.MaxInt, false},
		{0, math.MaxInt, true},
		{math.MinInt, 4, true},
		{math.MinInt, 3, false},
		{5, math.MaxInt, false},
	} {
		if got := digits.Right("1234", r.low, r.top); got != r.want {
			t.Errorf("row %d: %v", i, got)
		}
	}
	if !digits.Right(strings.Repeat("7", 100_000), 100_000, 100_000) {
		t.Error("Right of many digits: false")
	}
}

func TestRightTakesTheTenDigitsAlone(t *testing.T) {
	for x := range 256 {
		s := string([]byte{byte(x)})
		want := strings.Contains("0123456789", s)
		if got := digits.Right(s, 1, 1); got != want {
			t.Errorf("Right of byte %d: %v", x, got)
		}
	}
	for _, x := range unlike() {
		for i := range 6 {
			if s := spoilt(row(6), i, x); digits.Right(s, 0, 20) {
				t.Errorf("Right of %q: true", s)
			}
		}
	}
}

func TestNumberTellsWhatDigitsSay(t *testing.T) {
	for i, r := range []struct {
		s    string
		want uint64
	}{
		{"0", 0},
		{"1", 1},
		{"9", 9},
		{"10", 10},
		{"007", 7},
		{"0123456789", 123_456_789},
		{"4294967296", 1 << 32},
		{"000000000000000000", 0},
		{"000000000000000001", 1},
		{"100000000000000000", 100_000_000_000_000_000},
		{"123456789012345678", 123_456_789_012_345_678},
		{"999999999999999999", 999_999_999_999_999_999},
	} {
		if got, e := digits.Number(r.s); got != r.want || e != api.OK {
			t.Errorf("row %d: %d, error %d; want %d", i, got, e, r.want)
		}
	}
}

func TestNumberTakesFromOneToEighteenDigits(t *testing.T) {
	for n := 0; n <= 40; n++ {
		want, e := uint64(0), api.ErrDigit
		if n >= 1 && n <= 18 {
			var err error
			if want, err = strconv.ParseUint(row(n), 10, 64); err != nil {
				t.Fatal(err)
			}
			e = api.OK
		}
		if got, f := digits.Number(row(n)); got != want || f != e {
			t.Errorf("Number of %d digits: %d, error %d; want %d, %d", n, got, f, want, e)
		}
	}
	// Noughts ahead are digits, too.
	if v, e := digits.Number("0000000000000000001"); v != 0 || e != api.ErrDigit {
		t.Errorf("Number of 19 digits: %d, error %d", v, e)
	}
}

func TestNumberRefusesWhatIsNoDigit(t *testing.T) {
	for _, x := range unlike() {
		for i := range 5 {
			s := spoilt(row(5), i, x)
			if v, e := digits.Number(s); v != 0 || e != api.ErrDigit {
				t.Errorf("Number of %q: %d, error %d", s, v, e)
			}
		}
		if v, e := digits.Number(x); v != 0 || e != api.ErrDigit {
			t.Errorf("Number of %q: %d, error %d", x, v, e)
		}
	}
}

func TestTextIsAsWideAsAsked(t *testing.T) {
	for i, r := range []struct {
		v     uint64
		width int
		want  string
	}{
		{0, 1, "0"},
		{0, 4, "0000"},
		{0, 20, "00000000000000000000"},
		{9, 1, "9"},
		{7, 3, "007"},
		{10, 2, "10"},
		{120, 5, "00120"},
		{1 << 32, 10, "4294967296"},
		{999_999_999_999, 12, "999999999999"},
		{math.MaxInt64, 19, "9223372036854775807"},
		{1 << 63, 19, "9223372036854775808"},
		{9_999_999_999_999_999_999, 19, "9999999999999999999"},
		{9_999_999_999_999_999_999, 20, "09999999999999999999"},
		{10_000_000_000_000_000_000, 20, "10000000000000000000"},
		{math.MaxUint64, 20, "18446744073709551615"},
	} {
		if got, e := digits.Text(r.v, r.width); got != r.want || e != api.OK {
			t.Errorf("row %d: %q, error %d; want %q", i, got, e, r.want)
		}
	}
}

func TestTextRefusesWidthsThenGreatNumbers(t *testing.T) {
	values := []uint64{0, 1, 1 << 63, math.MaxUint64}
	for v := uint64(10); len(values) < 50 && v <= math.MaxUint64/10; v *= 10 {
		values = append(values, v-1, v)
	}
	for _, v := range values {
		plain := strconv.FormatUint(v, 10)
		for _, width := range []int{math.MinInt, -20, -1, 0, 1, 2, 3, 4, 5, 6, 7, 8, 9, 10, 11, 12, 13, 14, 15, 16, 17, 18, 19, 20, 21, 22, 1_000_000, math.MaxInt} {
			want, e := "", api.OK
			switch {
			case width < 1 || width > 20:
				e = api.ErrArg
			case len(plain) > width:
				e = api.ErrBig
			default:
				want = strings.Repeat("0", width-len(plain)) + plain
			}
			if got, f := digits.Text(v, width); got != want || f != e {
				t.Errorf("Text(%d, %d): %q, error %d; want %q, %d", v, width, got, f, want, e)
			}
		}
	}
}

func TestTextOfANumberIsReadAsIt(t *testing.T) {
	for _, v := range []uint64{0, 5, 99, 100, 999_999, 999_999_999_999, 999_999_999_999_999_999} {
		for width := len(strconv.FormatUint(v, 10)); width <= 18; width++ {
			s, e := digits.Text(v, width)
			if got, f := digits.Number(s); got != v || e != api.OK || f != api.OK {
				t.Errorf("Number of %q, of %d: %d, errors %d, %d", s, v, got, e, f)
			}
		}
	}
}

func TestBcdPacksTwoDigitsAByte(t *testing.T) {
	for i, r := range []struct {
		s    string
		want []byte
	}{
		{"", nil},
		{"0", []byte{0}},
		{"7", []byte{7}},
		{"00", []byte{0}},
		{"10", []byte{16}},
		{"99", []byte{153}},
		{"123", []byte{1, 35}},
		{"0123", []byte{1, 35}},
		{"9876543210", []byte{0x98, 0x76, 0x54, 0x32, 0x10}},
		{"987654321", []byte{0x09, 0x87, 0x65, 0x43, 0x21}},
	} {
		if got, e := digits.Bcd(r.s); !bytes.Equal(got, r.want) || e != api.OK {
			t.Errorf("row %d: %v, error %d; want %v", i, got, e, r.want)
		}
	}
}

func TestBcdTakesAHundredDigits(t *testing.T) {
	for n := 0; n <= 130; n++ {
		got, e := digits.Bcd(row(n))
		if n > 100 {
			if len(got) != 0 || e != api.ErrDigit {
				t.Errorf("Bcd of %d digits: %v, error %d", n, got, e)
			}
			continue
		}
		if len(got) != (n+1)/2 || e != api.OK {
			t.Errorf("Bcd of %d digits: %v, error %d", n, got, e)
		}
		if s, e := digits.UnBcd(got, n); s != row(n) || e != api.OK {
			t.Errorf("UnBcd of %d digits: %q, error %d", n, s, e)
		}
	}
}

func TestBcdRefusesWhatIsNoDigit(t *testing.T) {
	for _, x := range unlike() {
		for n := 1; n <= 5; n++ {
			for i := range n {
				s := spoilt(row(n), i, x)
				if b, e := digits.Bcd(s); len(b) != 0 || e != api.ErrDigit {
					t.Errorf("Bcd of %q: %v, error %d", s, b, e)
				}
			}
		}
	}
}

func TestUnBcdTellsSoManyDigits(t *testing.T) {
	for i, r := range []struct {
		b    []byte
		n    int
		want string
	}{
		{nil, 0, ""},
		{[]byte{}, 0, ""},
		{[]byte{0}, 2, "00"},
		{[]byte{0}, 1, "0"},
		{[]byte{9}, 1, "9"},
		{[]byte{0x99}, 2, "99"},
		{[]byte{1, 35}, 3, "123"},
		{[]byte{1, 35}, 4, "0123"},
		{[]byte{0x98, 0x76, 0x50}, 6, "987650"},
		{[]byte{0x08, 0x76, 0x50}, 5, "87650"},
	} {
		if got, e := digits.UnBcd(r.b, r.n); got != r.want || e != api.OK {
			t.Errorf("row %d: %q, error %d; want %q", i, got, e, r.want)
		}
	}
}

func TestUnBcdTakesTwiceTheLengthOrOneLess(t *testing.T) {
	for length := 0; length <= 5; length++ {
		b := bytes.Repeat([]byte{0x01}, length)
		for _, n := range []int{math.MinInt, math.MinInt + 1, -3, -2, -1, 0, 1, 2, 3, 4, 5, 6, 7, 8, 9, 10, 11, 12, math.MaxInt} {
			want, e := "", api.ErrArg
			if n >= 0 && (n == 2*length || n == 2*length-1) {
				want, e = strings.Repeat("01", length)[2*length-n:], api.OK
			}
			if got, f := digits.UnBcd(b, n); got != want || f != e {
				t.Errorf("UnBcd of %d bytes, %d: %q, error %d; want %q, %d", length, n, got, f, want, e)
			}
		}
	}
}

func TestUnBcdRefusesHalvesThatAreNoDigits(t *testing.T) {
	for x := range 256 {
		for i := range 3 {
			b := []byte{0x01, 0x23, 0x45}
			b[i] = byte(x)
			for n := 5; n <= 6; n++ {
				bad := x>>4 > 9 || x&15 > 9 || n == 5 && b[0]>>4 != 0
				got, e := digits.UnBcd(b, n)
				if bad && (got != "" || e != api.ErrDigit) || !bad && (len(got) != n || e != api.OK) {
					t.Errorf("UnBcd of %x, %d: %q, error %d", b, n, got, e)
				}
			}
		}
	}
}

func TestUnBcdNamesTheCountFirst(t *testing.T) {
	for _, n := range []int{-1, 0, 2, 5, 6} {
		if s, e := digits.UnBcd([]byte{0xff, 0xaa}, n); s != "" || e != api.ErrArg {
			t.Errorf("UnBcd of halves that are no digits, %d: %q, error %d", n, s, e)
		}
	}
}

func TestHexTellsTwoSignsAByte(t *testing.T) {
	for i, r := range []struct {
		b    []byte
		want string
	}{
		{nil, ""},
		{[]byte{}, ""},
		{[]byte{0}, "00"},
		{[]byte{0x0f, 0xf0}, "0FF0"},
		{[]byte{0x01, 0x23, 0x45, 0x67, 0x89, 0xab, 0xcd, 0xef}, "0123456789ABCDEF"},
	} {
		if got := digits.Hex(r.b); got != r.want {
			t.Errorf("row %d: %q; want %q", i, got, r.want)
		}
	}
}

func TestHexOfEachByteIsReadAsIt(t *testing.T) {
	var b []byte
	for x := range 256 {
		want := strings.ToUpper(strconv.FormatUint(uint64(0x100+x), 16))[1:]
		if got := digits.Hex([]byte{byte(x)}); got != want {
			t.Errorf("Hex of %d: %q; want %q", x, got, want)
		}
		if got, e := digits.UnHex(want); !bytes.Equal(got, []byte{byte(x)}) || e != api.OK {
			t.Errorf("UnHex of %q: %v, error %d", want, got, e)
		}
		b = append(b, byte(x))
	}
	if got, e := digits.UnHex(digits.Hex(b)); !bytes.Equal(got, b) || e != api.OK {
		t.Errorf("UnHex of all bytes: %v, error %d", got, e)
	}
}

func TestUnHexTakesItsSignsAlone(t *testing.T) {
	for x := range 256 {
		for i, s := range []string{string([]byte{byte(x), '0'}), string([]byte{'0', byte(x)})} {
			got, e := digits.UnHex(s)
			v := strings.IndexByte("0123456789ABCDEF", byte(x))
			if v < 0 {
				if len(got) != 0 || e != api.ErrDigit {
					t.Errorf("UnHex of %q: %v, error %d", s, got, e)
				}
				continue
			}
			if want := byte(v << (4 - 4*i)); !bytes.Equal(got, []byte{want}) || e != api.OK {
				t.Errorf("UnHex of %q: %v, error %d; want %d", s, got, e, want)
			}
		}
	}
}

func TestUnHexTakesEvenNumbersOfSigns(t *testing.T) {
	const all = "0123456789ABCDEFFEDCBA9876543210"
	for n := 0; n <= len(all); n++ {
		got, e := digits.UnHex(all[:n])
		if n%2 == 1 {
			if len(got) != 0 || e != api.ErrDigit {
				t.Errorf("UnHex of %q: %v, error %d", all[:n], got, e)
			}
			continue
		}
		if digits.Hex(got) != all[:n] || len(got) != n/2 || e != api.OK {
			t.Errorf("UnHex of %q: %v, error %d", all[:n], got, e)
		}
	}
	for _, s := range []string{"00fF", "FFff", "ff", "ABCDEf", "0x12", "12 34", "12\n", " 12 ", "G000", "000G", "٣", "0×"} {
		if got, e := digits.UnHex(s); len(got) != 0 || e != api.ErrDigit {
			t.Errorf("UnHex of %q: %v, error %d", s, got, e)
		}
	}
}

func TestWhatIsHandedInStays(t *testing.T) {
	room := []byte{0x12, 0x34, 0x56, 0x78}
	b := room[:2]
	s, h := "", ""
	for range 3 {
		s, _ = digits.UnBcd(b, 4)
		h = digits.Hex(b)
		digits.UnBcd(b, 3)
		digits.UnBcd(b, 9)
	}
	if !bytes.Equal(room, []byte{0x12, 0x34, 0x56, 0x78}) {
		t.Errorf("what was handed in: %x", room)
	}
	for i := range room {
		room[i] = 0x99
	}
	if s != "1234" || h != "1234" {
		t.Errorf("what was told hangs on what was handed in: %q, %q", s, h)
	}
}

func TestWhatIsHandedOutIsNewMemory(t *testing.T) {
	for _, read := range []func(string) ([]byte, api.Errno){digits.Bcd, digits.UnHex} {
		x, _ := read("1234")
		y, _ := read("1234")
		x[0], x[1] = 99, 99
		x = append(x, 99)
		z, e := read("1234")
		if !bytes.Equal(y, []byte{0x12, 0x34}) || !bytes.Equal(z, y) || e != api.OK {
			t.Errorf("after %v was written: %v, %v, error %d", x, y, z, e)
		}
	}
}
