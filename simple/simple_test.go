package simple_test

import (
	"math"
	"regexp"
	"slices"
	"strconv"
	"strings"
	"testing"
	"time"
	"unicode/utf8"

	"comptoir/api"
	"comptoir/simple"
)

const maxAmount = 999_999_999_999

// two is n in two digits.
func two(n int) string {
	return four(n)[2:]
}

// four is n in four digits.
func four(n int) string {
	return strconv.Itoa(10_000 + n)[1:]
}

// spoilt is s with x in place of the byte at i.
func spoilt(s string, i int, x string) string {
	return s[:i] + x + s[i+1:]
}

// at is the parts of s ahead of the byte at i, and from it on, with x between them.
func at(s string, i int, x string) string {
	return s[:i] + x + s[i:]
}

// shown is fourteen digits, with the marks of a time between them.
func shown(t string) string {
	return t[:4] + "-" + t[4:6] + "-" + t[6:8] + "T" + t[8:10] + ":" + t[10:12] + ":" + t[12:]
}

// is fails unless all calls that ask for times tell that t, of fourteen digits, is one, or is none.
func is(t *testing.T, s string, want bool) {
	t.Helper()
	text, back, e := "", "", api.ErrType
	if want {
		text, back, e = shown(s), s, api.OK
	}
	if got := simple.Time(s); got != want {
		t.Errorf("Time(%q): %v", s, got)
	}
	if got, f := simple.TimeText(s); got != text || f != e {
		t.Errorf("TimeText(%q): %q, error %d; want %q, %d", s, got, f, text, e)
	}
	if got, f := simple.TimeOf(shown(s)); got != back || f != e {
		t.Errorf("TimeOf(%q): %q, error %d; want %q, %d", shown(s), got, f, back, e)
	}
	lets(t, api.Child{Type: api.STime}, shown(s), want)
}

// isNone fails unless Time and TimeText refuse s.
func isNone(t *testing.T, s string) {
	t.Helper()
	if simple.Time(s) {
		t.Errorf("Time(%+q): true", s)
	}
	if got, e := simple.TimeText(s); got != "" || e != api.ErrType {
		t.Errorf("TimeText(%+q): %q, error %d", s, got, e)
	}
}

// showsNone fails unless TimeOf, and the check of a time, refuse s.
func showsNone(t *testing.T, s string) {
	t.Helper()
	if got, e := simple.TimeOf(s); got != "" || e != api.ErrType {
		t.Errorf("TimeOf(%+q): %q, error %d", s, got, e)
	}
	lets(t, api.Child{Type: api.STime, Low: len(s), Top: len(s)}, s, false)
}

// lets fails unless Check tells that c may be s, or that it may not.
func lets(t *testing.T, c api.Child, s string, want bool) {
	t.Helper()
	e := api.ErrType
	if want {
		e = api.OK
	}
	if got := simple.Check(c, s); got != e {
		t.Errorf("Check of type %d from %d to %d, %+q: error %d; want %d", c.Type, c.Low, c.Top, s, got, e)
	}
}

// signs are all bytes, and some characters of more than one.
func signs() []string {
	out := []string{"٣", "１", "²", "é", "−", "‐", "：", "．", "·", "\u00a0", "\ufeff", "😀"}
	for x := range 256 {
		out = append(out, string([]byte{byte(x)}))
	}
	return out
}

// digit tells whether s is one.
func digit(s string) bool {
	return len(s) == 1 && strings.Contains("0123456789", s)
}

func TestTheChaptersExample(t *testing.T) {
	if s, e := simple.AmountText(5); s != "0.05" || e != api.OK {
		t.Errorf("AmountText(5): %q, error %d", s, e)
	}
}

func TestTimesAreShown(t *testing.T) {
	for i, r := range []struct{ t, s string }{
		{"20260102030405", "2026-01-02T03:04:05"},
		{"00010101000000", "0001-01-01T00:00:00"},
		{"99991231235959", "9999-12-31T23:59:59"},
		{"20241119123456", "2024-11-19T12:34:56"},
		{"20240229235959", "2024-02-29T23:59:59"},
		{"20000229000000", "2000-02-29T00:00:00"},
	} {
		if got, e := simple.TimeText(r.t); got != r.s || e != api.OK {
			t.Errorf("row %d: TimeText %q, error %d; want %q", i, got, e, r.s)
		}
		if got, e := simple.TimeOf(r.s); got != r.t || e != api.OK {
			t.Errorf("row %d: TimeOf %q, error %d; want %q", i, got, e, r.t)
		}
		is(t, r.t, true)
	}
}

func TestTimeTakesFourteenDigits(t *testing.T) {
	const all = "2026010112000001010101010101"
	for n := range len(all) + 1 {
		if n == 14 {
			is(t, all[:n], true)
			continue
		}
		isNone(t, all[:n])
		isNone(t, strings.Repeat("1", n))
		isNone(t, strings.Repeat("0", n))
	}
	for _, s := range []string{"020260101120000", "20260101120000 ", " 20260101120000", "20260101120000\x00", "20260101120000\n", "2026-01-01T12:00:00", "2026-01-01", "26010112000000x", strings.Repeat("20260101120000", 1_000)} {
		isNone(t, s)
	}
}

func TestTimeRefusesWhatIsNoDigitAtEachPlace(t *testing.T) {
	const s = "11111111111111"
	is(t, s, true)
	for i := range len(s) {
		for _, x := range signs() {
			if digit(x) {
				continue
			}
			isNone(t, spoilt(s, i, x))
			// Of fourteen bytes, but of fewer digits.
			if i+len(x) <= len(s) {
				isNone(t, s[:i]+x+s[i+len(x):])
			}
			isNone(t, at(s, i, x))
			showsNone(t, shown(s[:i]+x[:1]+s[i+1:]))
		}
	}
}

func TestEachYear(t *testing.T) {
	for year := range 10_000 {
		is(t, four(year)+"0101000000", year > 0)
		is(t, four(year)+"1231235959", year > 0)
	}
}

func TestEachMonthDayHourMinuteAndSecond(t *testing.T) {
	const s = "20260101000000"
	for n := range 100 {
		is(t, s[:4]+two(n)+s[6:], n >= 1 && n <= 12)
		is(t, s[:6]+two(n)+s[8:], n >= 1 && n <= 31)
		is(t, s[:8]+two(n)+s[10:], n <= 23)
		is(t, s[:10]+two(n)+s[12:], n <= 59)
		is(t, s[:12]+two(n), n <= 59)
	}
}

func TestTheLastDayOfEachMonth(t *testing.T) {
	for month, last := range []int{31, 28, 31, 30, 31, 30, 31, 31, 30, 31, 30, 31} {
		for day := range 100 {
			is(t, "2026"+two(month+1)+two(day)+"120000", day >= 1 && day <= last)
		}
	}
}

func TestFebruary(t *testing.T) {
	for _, r := range []struct{ year, last int }{
		{1, 28}, {2, 28}, {3, 28}, {4, 29}, {5, 28}, {8, 29}, {96, 29}, {99, 28}, {100, 28}, {104, 29}, {200, 28}, {300, 28}, {399, 28}, {400, 29}, {401, 28}, {404, 29}, {500, 28},
		{800, 29}, {1000, 28}, {1200, 29}, {1582, 28}, {1600, 29}, {1700, 28}, {1800, 28}, {1896, 29}, {1900, 28}, {1904, 29}, {1996, 29}, {1999, 28},
		{2000, 29}, {2001, 28}, {2004, 29}, {2023, 28}, {2024, 29}, {2025, 28}, {2026, 28}, {2028, 29}, {2100, 28}, {2200, 28}, {2300, 28}, {2400, 29},
		{4000, 29}, {8000, 29}, {9600, 29}, {9900, 28}, {9996, 29}, {9998, 28}, {9999, 28},
	} {
		for day := range 33 {
			is(t, four(r.year)+"02"+two(day)+"235959", day >= 1 && day <= r.last)
		}
	}
	// There is no such year, though it would be a fourth one.
	for day := range 33 {
		is(t, "000002"+two(day)+"000000", false)
	}
}

func TestDaysOfAllYearsAsTheCalendarHasThem(t *testing.T) {
	for year := 1; year < 10_000; year++ {
		for month := 1; month <= 12; month++ {
			last := time.Date(year, time.Month(month)+1, 0, 0, 0, 0, 0, time.UTC).Day()
			for _, day := range []int{0, 1, 28, 29, 30, 31, 32} {
				want := day >= 1 && day <= last
				if s := four(year) + two(month) + two(day) + "000000"; simple.Time(s) != want {
					t.Errorf("Time(%q): %v", s, !want)
				}
			}
		}
	}
}

func TestHoursMinutesAndSecondsTogether(t *testing.T) {
	edges := []int{0, 1, 9, 10, 12, 19, 20, 22, 23, 24, 25, 29, 30, 58, 59, 60, 61, 99}
	for _, hour := range edges {
		for _, minute := range edges {
			for _, second := range edges {
				is(t, "20260228"+two(hour)+two(minute)+two(second), hour <= 23 && minute <= 59 && second <= 59)
			}
		}
	}
	// The last second of a day is its fifty-ninth, be it that a sixtieth was once let in.
	is(t, "20161231235960", false)
	is(t, "20261231240000", false)
}

func TestTimeOfEachSignAtEachPlace(t *testing.T) {
	for _, s := range []string{"2026-01-02T03:04:05", "1111-11-11T11:11:11", "2024-02-29T23:59:59", "0001-01-01T00:00:00"} {
		for i := range len(s) {
			for _, x := range signs() {
				turned := spoilt(s, i, x)
				if may(api.Child{Type: api.STime}, turned) {
					is(t, strings.NewReplacer("-", "", "T", "", ":", "").Replace(turned), true)
				} else {
					showsNone(t, turned)
				}
			}
		}
	}
}

func TestTimeOfMarksTooManyOrMissing(t *testing.T) {
	const s = "2026-01-02T03:04:05"
	for i := range len(s) {
		showsNone(t, s[:i])
		showsNone(t, s[:i]+s[i+1:])
		showsNone(t, at(s, i, s[i:i+1]))
		for _, x := range []string{"-", "T", ":", ".", " ", "0", "1", "Z", "\x00"} {
			showsNone(t, at(s, i, x))
			showsNone(t, s+x)
			// As long as a time, but with a sign too many here, and one missing there.
			for k := range len(s) {
				if moved := at(s[:k]+s[k+1:], i, x); moved != s && !digit(x) {
					showsNone(t, moved)
				}
			}
		}
	}
	for _, x := range []string{"", "20260102030405", "2026-01-02", "03:04:05", "2026-01-02 03:04:05", "2026-01-02t03:04:05", "2026/01/02T03:04:05", "2026:01:02T03-04-05", "2026-01-02T03:04:05Z", "2026-01-02T03:04:05.0", "2026-01-02T03:04:05+00:00", "2026-01-02T030405", "20260102T030405", "20260102T03:04:05", "2026-1-2T3:4:5", "2026-01-02T03:04", "-2026-01-02T03:04:05", "+2026-01-02T03:04:05", "02026-01-02T03:04:05", "26-01-02T03:04:05", "T2026-01-0203:04:05", "2026-01T02-03:04:05", "2026-01-0203T:04:05", " 2026-01-02T03:04:05", "2026-01-02T03:04:05 ", "2026-01-02T03:04:05\n", "2026-01-02T03:04:05\x00", "2026 01 02 03 04 05", "-------------------", "TTTTTTTTTTTTTTTTTTT", ":::::::::::::::::::", "0000000000000000000", "1111111111111111111", strings.Repeat(s, 1_000)} {
		showsNone(t, x)
	}
}

func TestAmountsAreShown(t *testing.T) {
	for i, r := range []struct {
		v uint64
		s string
	}{
		{0, "0.00"}, {1, "0.01"}, {5, "0.05"}, {9, "0.09"}, {10, "0.10"}, {11, "0.11"}, {50, "0.50"}, {90, "0.90"}, {99, "0.99"},
		{100, "1.00"}, {101, "1.01"}, {109, "1.09"}, {110, "1.10"}, {199, "1.99"}, {200, "2.00"}, {999, "9.99"}, {1_000, "10.00"}, {1_001, "10.01"}, {10_000, "100.00"}, {12_345, "123.45"}, {100_100, "1001.00"},
		{1<<32 - 1, "42949672.95"}, {1 << 32, "42949672.96"}, {100_000_000_000, "1000000000.00"}, {999_999_999_998, "9999999999.98"}, {maxAmount, "9999999999.99"},
	} {
		if got, e := simple.AmountText(r.v); got != r.s || e != api.OK {
			t.Errorf("row %d: AmountText %q, error %d; want %q", i, got, e, r.s)
		}
		if got, e := simple.AmountOf(r.s); got != r.v || e != api.OK {
			t.Errorf("row %d: AmountOf %d, error %d; want %d", i, got, e, r.v)
		}
		lets(t, api.Child{Type: api.SAmount}, r.s, true)
	}
}

func TestAmountTextRefusesWhatIsAboveTheGreatest(t *testing.T) {
	for _, v := range []uint64{maxAmount + 1, maxAmount + 2, maxAmount + 100, 10_000_000_000_000, 1 << 40, 1<<40 + 5, 1 << 62, 1<<63 - 1, 1 << 63, 999_999_999_999_999_999, math.MaxUint64 - 1, math.MaxUint64} {
		if got, e := simple.AmountText(v); got != "" || e != api.ErrBig {
			t.Errorf("AmountText(%d): %q, error %d", v, got, e)
		}
	}
}

func TestAmountsAreReadAsTheyWere(t *testing.T) {
	values := []uint64{maxAmount, maxAmount - 1, maxAmount - 99, maxAmount - 100}
	for v := range uint64(20_000) {
		values = append(values, v, maxAmount-v, v*49_999_999)
	}
	for v := uint64(1); v <= maxAmount; v *= 10 {
		values = append(values, v-1, v, v+1, 9*v)
	}
	for _, v := range values {
		if v > maxAmount {
			continue
		}
		s, e := simple.AmountText(v)
		if digits := strings.Replace(s, ".", "", 1); e != api.OK || !amount(s) || strings.TrimLeft(digits, "0") != strings.TrimLeft(strconv.FormatUint(v, 10), "0") {
			t.Errorf("AmountText(%d): %q, error %d", v, s, e)
		}
		if got, e := simple.AmountOf(s); got != v || e != api.OK {
			t.Errorf("AmountOf(%q): %d, error %d; want %d", s, got, e, v)
		}
	}
}

// hundredth is the form of what AmountText tells.
var hundredth = regexp.MustCompile(`\A(0|[1-9][0-9]{0,9})\.[0-9]{2}\z`)

// amount tells whether s is the hundredth of an amount.
func amount(s string) bool {
	return hundredth.MatchString(s)
}

// tellsAmount fails unless AmountOf, and the check of an amount, take s just if it is one.
func tellsAmount(t *testing.T, s string) {
	t.Helper()
	want, e := uint64(0), api.ErrType
	if amount(s) {
		var err error
		if want, err = strconv.ParseUint(strings.Replace(s, ".", "", 1), 10, 64); err != nil {
			t.Fatal(err)
		}
		e = api.OK
	}
	if got, f := simple.AmountOf(s); got != want || f != e {
		t.Errorf("AmountOf(%+q): %d, error %d; want %d, %d", s, got, f, want, e)
	}
	lets(t, api.Child{Type: api.SAmount, Low: 4, Top: 13}, s, e == api.OK)
}

func TestAmountOfWhatIsNone(t *testing.T) {
	for _, s := range []string{
		"", ".", "..", "0", "5", "100", "0.", "1.", "100.", ".0", ".5", ".05", ".00", ".005", "0.0", "0.5", "1.5", "10.0", "0.000", "0.050", "1.000", "1.0000",
		"00.00", "00.05", "01.00", "0000000000.00", "0000000001.00", "000000000001.00", "0000000000001",
		"1..00", "1.0.0", "1.00.", ".1.00", "..00", "1.0.", "100..", "1.00.00", "1.000.00",
		"-1.00", "+1.00", "-0.00", "+0.00", "--1.00", "1.-5", "1.+5", "1.-50", "1-00", "-.05", "+.05",
		" 1.00", "1.00 ", "1. 00", "1 .00", "1.00\n", "\t1.00", "1.00\x00", "\x001.00", "1,00", "1.000,00", "1,000.00", "1_000.00", "1:00", "1·00", "1．00", "１.00", "1.٣٣",
		"a.00", "1.0x", "1.x0", "0x1.00", "1e2.00", "1.e2", "1e5", "0b1.00", "NaN", "Inf", "$1.00", "EUR1.00",
		"10000000000.00", "10000000000.01", "19999999999.99", "99999999999.99", "99999999999999.99", "9999999999999999.99", "99999999999999999.99", "18446744073709551616.00", "184467440737095516.16", "99999999999999999999.99",
		"9999999999.999", "9999999999.9", "9999999999", "9999999999.", "99999999999.9", "999999999999", "1000000000000",
		strings.Repeat("0", 1_000) + "1.00", strings.Repeat("9", 100_000) + ".99", "1." + strings.Repeat("0", 100_000), strings.Repeat(".", 1_000), strings.Repeat("1.00", 1_000),
	} {
		if amount(s) {
			t.Fatalf("%q is one", s)
		}
		tellsAmount(t, s)
	}
}

func TestAmountOfAllShortTexts(t *testing.T) {
	texts := []string{""}
	for range 7 {
		var longer []string
		for _, s := range texts {
			for _, x := range []string{"0", "1", "9", ".", "-", "x"} {
				longer = append(longer, s+x)
			}
		}
		for _, s := range longer {
			tellsAmount(t, s)
		}
		// The last round only asks.
		texts = longer
	}
}

func TestAmountOfEachSignAtEachPlace(t *testing.T) {
	for _, s := range []string{"0.05", "1.00", "10.01", "123.45", "9999999999.99", "1000000000.00"} {
		for i := range len(s) {
			tellsAmount(t, s[:i])
			tellsAmount(t, s[:i]+s[i+1:])
			for _, x := range signs() {
				tellsAmount(t, spoilt(s, i, x))
				tellsAmount(t, at(s, i, x))
				tellsAmount(t, s+x)
			}
		}
	}
}

// bounds are lengths, sensible ones and others.
func bounds() []int {
	return []int{math.MinInt, math.MinInt + 1, -1 << 31, -4, -2, -1, 0, 1, 2, 3, 4, 5, 6, 7, 8, 9, 10, 11, 12, 13, 14, 19, 20, 1_000, 1<<31 - 1, math.MaxInt - 1, math.MaxInt}
}

// ofAlphabet tells whether all bytes of s are of that.
func ofAlphabet(s, alphabet string) bool {
	for i := range len(s) {
		if strings.IndexByte(alphabet, s[i]) < 0 {
			return false
		}
	}
	return true
}

const (
	nine     = "0123456789"
	capitals = "ABCDEFGHIJKLMNOPQRSTUVWXYZ"
	smalls   = "abcdefghijklmnopqrstuvwxyz"
)

// within tells whether n is from low to top.
func within(n, low, top int) bool {
	return low <= n && n <= top
}

// plain tells whether s is of characters that stand in one line, from low to top of them, without blanks around.
func plain(s string, low, top int) bool {
	if !utf8.ValidString(s) || !within(utf8.RuneCountInString(s), low, top) {
		return false
	}
	for _, c := range s {
		if c < ' ' || c == 65_534 || c == 65_535 {
			return false
		}
	}
	return strings.Trim(s, " ") == s
}

// may tells whether the chapter lets c be s.
func may(c api.Child, s string) bool {
	switch c.Type {
	case 1:
		return ofAlphabet(s, nine) && within(len(s), c.Low, c.Top)
	case 2:
		return plain(s, c.Low, c.Top)
	case 3:
		return len(s) == 4 && ofAlphabet(s, capitals)
	case 4:
		const layout = "2006-01-02T15:04:05"
		at, err := time.Parse(layout, s)
		return err == nil && len(s) == 19 && s[:4] != "0000" && at.Format(layout) == s
	case 5:
		return amount(s)
	case 6:
		return ofAlphabet(s, nine+capitals+smalls) && within(len(s), c.Low, c.Top)
	case 7:
		return len(s)%2 == 0 && ofAlphabet(s, nine+"ABCDEF") && within(len(s), c.Low, c.Top)
	}
	return false
}

// values are texts of all types, and such that are none of any.
func values() []string {
	out := []string{
		"", " ", "  ", " a", "a ", " a ", "a b", "  a", "a  ", "é b", "é", "€", "😀", "é€😀", "\t", "a\tb", "a\nb", "\n", "a\x7fb", "\x00", "\x1f", "\xff", "a\xff", "\xc3", "\ufffe", "\uffff", "\ufffd", "\u00a0a",
		"ABC", "ABCD", "ABCDE", "AAAA", "ZZZZ", "AUTQ", "abcd", "ABCd", "aBCD", "ABC1", "1234", "AB D", " ABC", "ABC ", "ABC\x00", "@ABC", "ABC[", "ÀBC", "ABÉ", "ÀÉ", "ÅÄ", "ＡＢＣＤ", "Ａ",
		"2026-01-02T03:04:05", "2024-02-29T23:59:59", "2023-02-29T00:00:00", "0001-01-01T00:00:00", "0000-01-01T00:00:00", "9999-12-31T23:59:59", "2026-13-01T00:00:00", "20260102030405", "2026-01-02 03:04:05", "2026-01-02T03:04:05Z", "2026-01-02T24:00:00",
		"0.00", "0.05", "1.00", "12.34", "9999999999.99", "10000000000.00", ".05", "00.05", "1.0", "1.000", "-1.00",
		"0A", "0AFF", "0aff", "0AF", "A", "0A0A0A", "FF", "FG", "GG", "0AF ", "0A FF", "AB", "ABCDEF", "0a", "aF", "Af", "0AFf",
		"aZ9", "a-b", "a_b", "a1Z", "Zz", "/0", ":9", "@A", "Z[", "`a", "z{", "٣", "１", "²", "ß", "ı", "\u212a",
	}
	for n := 0; n <= 14; n++ {
		out = append(out, strings.Repeat("7", n), strings.Repeat("x", n), strings.Repeat("é", n), strings.Repeat("AB", n), strings.Repeat("F", n))
	}
	return append(out, strings.Repeat("1", 1_000), strings.Repeat("1", 1_001), strings.Repeat("€", 1_000), strings.Repeat("€", 1_001))
}

func TestCheckOfEachTypeWithAllLengths(t *testing.T) {
	for _, s := range values() {
		for kind := 1; kind <= 7; kind++ {
			for _, low := range bounds() {
				for _, top := range bounds() {
					c := api.Child{Type: kind, Low: low, Top: top}
					lets(t, c, s, may(c, s))
				}
			}
		}
	}
}

func TestCheckAtItsBounds(t *testing.T) {
	for i, r := range []struct {
		kind, low, top int
		s              string
		want           bool
	}{
		{api.SNumber, 2, 4, "1", false}, {api.SNumber, 2, 4, "12", true}, {api.SNumber, 2, 4, "1234", true}, {api.SNumber, 2, 4, "12345", false}, {api.SNumber, 0, 0, "", true}, {api.SNumber, 0, 1, "a", false}, {api.SNumber, 3, 2, "12", false}, {api.SNumber, 3, 2, "123", false},
		{api.SNumber, 1, 30, "000000000000000000000000000001", true}, {api.SNumber, 1, 6, "-12", false}, {api.SNumber, 1, 6, "1.2", false}, {api.SNumber, 1, 6, " 12", false}, {api.SNumber, -3, -1, "", false}, {api.SNumber, -3, 0, "", true},
		{api.SText, 2, 4, "é", false}, {api.SText, 2, 4, "é€", true}, {api.SText, 2, 4, "é€😀a", true}, {api.SText, 2, 4, "é€😀ab", false}, {api.SText, 0, 0, "", true}, {api.SText, 1, 1, "", false}, {api.SText, 3, 2, "ab", false}, {api.SText, 3, 2, "abc", false},
		{api.SText, 1, 9, " ab", false}, {api.SText, 1, 9, "ab ", false}, {api.SText, 1, 9, "a b", true}, {api.SText, 1, 9, "a\nb", false}, {api.SText, 1, 9, "a\tb", false}, {api.SText, 1, 9, "a\xffb", false}, {api.SText, -1, -1, "", false},
		{api.SCode, 4, 4, "ABC", false}, {api.SCode, 4, 4, "ABCD", true}, {api.SCode, 4, 4, "ABCDE", false}, {api.SCode, 3, 3, "ABC", false}, {api.SCode, 5, 5, "ABCDE", false}, {api.SCode, 3, 3, "ABCD", true}, {api.SCode, 5, 5, "ABCD", true}, {api.SCode, 0, 0, "", false}, {api.SCode, 0, 9, "ABCDABCD", false}, {api.SCode, -1, -1, "ABCD", true}, {api.SCode, 4, 4, "abcd", false},
		{api.STime, 0, 0, "2026-01-02T03:04:05", true}, {api.STime, 19, 19, "2026-01-02T03:04:05", true}, {api.STime, 20, 18, "2026-01-02T03:04:05", true}, {api.STime, 14, 14, "20260102030405", false}, {api.STime, 0, 0, "", false}, {api.STime, 19, 19, "2026-02-30T03:04:05", false},
		{api.SAmount, 0, 0, "12.34", true}, {api.SAmount, 9, 9, "12.34", true}, {api.SAmount, 9, 1, "12.34", true}, {api.SAmount, 4, 4, "0.5", false}, {api.SAmount, 0, 0, "", false}, {api.SAmount, 4, 14, "10000000000.00", false},
		{api.SAlnum, 2, 4, "a", false}, {api.SAlnum, 2, 4, "a1", true}, {api.SAlnum, 2, 4, "a1Z9", true}, {api.SAlnum, 2, 4, "a1Z9x", false}, {api.SAlnum, 0, 0, "", true}, {api.SAlnum, 1, 1, "", false}, {api.SAlnum, 3, 2, "ab", false}, {api.SAlnum, 1, 9, "é", false}, {api.SAlnum, 2, 2, "é", false}, {api.SAlnum, 1, 9, "a b", false},
		{api.SHex, 4, 8, "0AF", false}, {api.SHex, 4, 8, "0A", false}, {api.SHex, 4, 8, "0AFF", true}, {api.SHex, 4, 8, "0AFF12", true}, {api.SHex, 4, 8, "0AFF1234", true}, {api.SHex, 4, 8, "0AFF123456", false}, {api.SHex, 4, 8, "0AFF1", false}, {api.SHex, 4, 8, "0aff", false}, {api.SHex, 0, 0, "", true}, {api.SHex, 1, 9, "", false}, {api.SHex, 8, 4, "0AFF", false}, {api.SHex, 8, 4, "0AFF1234", false}, {api.SHex, 4, 4, "0AFG", false}, {api.SHex, 2, 2, "0AFF", false}, {api.SHex, -2, -1, "", false}, {api.SHex, 3, 3, "0AF", false}, {api.SHex, 3, 4, "0AFF", true},
	} {
		c := api.Child{Type: r.kind, Low: r.low, Top: r.top}
		if may(c, r.s) != r.want {
			t.Errorf("row %d: the chapter was asked wrongly", i)
		}
		lets(t, c, r.s, r.want)
	}
}

func TestCheckOfEachByteAtEachPlace(t *testing.T) {
	for _, r := range []struct {
		kind int
		s    string
	}{{api.SNumber, "123"}, {api.SText, "abc"}, {api.SCode, "ABCD"}, {api.STime, "2026-01-02T03:04:05"}, {api.SAmount, "12.34"}, {api.SAlnum, "a1Z"}, {api.SHex, "0AFF"}} {
		c := api.Child{Type: r.kind, Low: 2, Top: 4}
		lets(t, c, r.s, true)
		for i := range len(r.s) {
			for _, x := range signs() {
				for _, s := range []string{spoilt(r.s, i, x), at(r.s, i, x), r.s + x, r.s[:i] + x} {
					lets(t, c, s, may(c, s))
				}
			}
		}
	}
}

func TestCheckOfTypesThatHaveNoText(t *testing.T) {
	kinds := []int{api.SComplex, 0, -1, -2, -7, -8, 9, 10, 16, 99, 255, 256, 257, 263, 1 << 31, 1<<32 + 1, 1<<32 + 2, math.MaxInt, math.MinInt, math.MinInt + 1, math.MinInt + 2}
	for _, kind := range kinds {
		for _, s := range values() {
			for _, low := range []int{math.MinInt, 0, 1, len(s)} {
				for _, top := range []int{0, len(s), 4, math.MaxInt} {
					lets(t, api.Child{Type: kind, Low: low, Top: top}, s, false)
				}
			}
		}
	}
}

func TestCheckAsksNothingElseOfAChild(t *testing.T) {
	for _, s := range values() {
		for kind := range 10 {
			c := api.Child{Type: kind, Low: 1, Top: 19}
			want := simple.Check(c, s)
			for _, name := range []string{"", "PAN", "Document", " ", "\xff"} {
				for _, n := range []int{0, 1, -1, 8, math.MaxInt, math.MinInt} {
					for _, m := range []int{0, 1, math.MaxInt} {
						c.Name, c.Min, c.Max = name, n, m
						if got := simple.Check(c, s); got != want {
							t.Errorf("Check of %+v, %+q: error %d; without its name, and how often: %d", c, s, got, want)
						}
					}
				}
			}
		}
	}
}

// told is what the calls tell of all values.
func told() []string {
	var out []string
	for _, s := range values() {
		text, e := simple.TimeOf(s)
		v, f := simple.AmountOf(s)
		out = append(out, text, strconv.Itoa(int(e)), strconv.FormatUint(v, 10), strconv.Itoa(int(f)), strconv.FormatBool(simple.Time(s)))
		for kind := range 10 {
			out = append(out, strconv.Itoa(int(simple.Check(api.Child{Type: kind, Low: 1, Top: 9}, s))))
		}
	}
	return out
}

func TestCallsHangOnTheirArgumentsAlone(t *testing.T) {
	want := told()
	simple.TimeText("20260102030405")
	simple.AmountText(math.MaxUint64)
	if got := told(); !slices.Equal(got, want) {
		t.Error("the second time, the calls answered something else")
	}
}
