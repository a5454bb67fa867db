package iso_test

import (
	"bytes"
	"math"
	"math/rand"
	"slices"
	"strconv"
	"strings"
	"sync"
	"testing"

	"comptoir/api"
	"comptoir/bitmap"
	"comptoir/element"
	"comptoir/iso"
)

const digits = "0123456789"

// known are the numbers of all data elements that there are.
func known() []int {
	return []int{2, 4, 11, 12, 22, 25, 32, 37, 38, 39, 41, 42, 43, 48, 49, 55, 56, 60, 61, 62, 63, 102, 103, 120}
}

// el is an element of these data.
func el(no int, data string) api.Element {
	return api.Element{No: no, Data: []byte(data)}
}

// of is a message of these elements.
func of(mti string, all ...api.Element) api.Iso {
	return api.Iso{Mti: mti, Fields: all}
}

// data are the greatest data, or the least, that the element may have; those of other seeds differ.
func data(no int, greatest bool, seed int) string {
	f, ok := element.Of(no)
	if !ok {
		panic(no)
	}
	n := f.Max
	if f.Digits > 0 && !greatest {
		n = 1
	}
	out := make([]byte, n)
	for i := range out {
		out[i] = digits[(7*i+3*no+seed)%10]
	}
	if f.Kind == api.FByte {
		out[n/2] = byte(200 + seed%50)
	}
	return string(out)
}

// bits is a map of the bits, one by one: bit 1 is the highest of the first byte.
func bits(l ...int) string {
	b := make([]byte, 8)
	for _, n := range l {
		if n > 64 && len(b) == 8 {
			b = append(b, make([]byte, 8)...)
			b[0] |= 128
		}
		b[(n-1)/8] |= 128 >> ((n - 1) % 8)
	}
	return string(b)
}

// rises tells whether a map lets the elements.
func rises(all []api.Element) bool {
	last := 1
	for _, x := range all {
		if x.No <= last || x.No > 128 || x.No == 65 {
			return false
		}
		last = x.No
	}
	return true
}

// four tells whether s is four digits.
func four(s string) bool {
	return len(s) == 4 && strings.Trim(s, digits) == ""
}

// packed is what the chapter tells of Pack, asked anew.
func packed(m api.Iso) (string, api.Errno) {
	if !four(m.Mti) {
		return "", api.ErrDigit
	}
	if !rises(m.Fields) {
		return "", api.ErrArg
	}
	var l []int
	behind := ""
	for _, x := range m.Fields {
		b, e := element.Write(x)
		if e != api.OK {
			return "", e
		}
		l = append(l, x.No)
		behind += string(b)
	}
	return m.Mti + bits(l...) + behind, api.OK
}

// parsed is what the chapter tells of Parse, asked anew.
func parsed(b string) (api.Iso, api.Errno) {
	switch {
	case len(b) > 4096:
		return api.Iso{}, api.ErrBig
	case len(b) < 4:
		return api.Iso{}, api.ErrShort
	case !four(b[:4]):
		return api.Iso{}, api.ErrDigit
	}
	l, n, e := bitmap.Parse([]byte(b[4:]))
	if e != api.OK {
		return api.Iso{}, e
	}
	m := of(b[:4])
	rest := b[4+n:]
	for _, no := range l {
		d, n, e := element.Read(no, []byte(rest))
		if e != api.OK {
			return api.Iso{}, e
		}
		m.Fields = append(m.Fields, el(no, string(d)))
		rest = rest[n:]
	}
	if rest != "" {
		return api.Iso{}, api.ErrLength
	}
	return m, api.OK
}

// same tells whether two elements are.
func same(a, b api.Element) bool {
	return a.No == b.No && bytes.Equal(a.Data, b.Data)
}

// named tells what a message is, in few signs.
func named(m api.Iso) string {
	out := strconv.Quote(m.Mti)
	for _, x := range m.Fields {
		out += " " + strconv.Itoa(x.No) + " " + short(string(x.Data))
	}
	return out
}

// short names bytes in what a test tells.
func short(b string) string {
	if len(b) > 90 {
		return strconv.Itoa(len(b)) + " bytes, from " + short(b[:50])
	}
	return strconv.Quote(b)
}

// packs fails unless Pack answers just that.
func packs(t *testing.T, m api.Iso, want string, fault api.Errno) {
	t.Helper()
	if b, e := iso.Pack(m); string(b) != want || e != fault {
		t.Fatalf("Pack(%s): %s, error %d; want %s, error %d", named(m), short(string(b)), e, short(want), fault)
	}
}

// parses fails unless Parse answers just that.
func parses(t *testing.T, b string, want api.Iso, fault api.Errno) {
	t.Helper()
	m, e := iso.Parse([]byte(b))
	if m.Mti != want.Mti || !slices.EqualFunc(m.Fields, want.Fields, same) || e != fault {
		t.Fatalf("Parse(%s): %s, error %d; want %s, error %d", short(b), named(m), e, named(want), fault)
	}
}

// refuses fails unless Parse answers that error.
func refuses(t *testing.T, b string, fault api.Errno) {
	t.Helper()
	parses(t, b, api.Iso{}, fault)
}

// held fails unless Pack of m answers what the chapter tells, and what it told is parsed.
func held(t *testing.T, m api.Iso) {
	t.Helper()
	want, fault := packed(m)
	packs(t, m, want, fault)
	if fault == api.OK {
		parses(t, want, m, api.OK)
	}
}

// asked fails unless Parse of b answers what the chapter tells, and what it told is packed as it stood there.
func asked(t *testing.T, b string) {
	t.Helper()
	want, fault := parsed(b)
	parses(t, b, want, fault)
	if fault == api.OK {
		packs(t, want, b, api.OK)
	}
}

// whole is a message of the elements of these numbers, each with the greatest data that it may have, or the least.
func whole(greatest bool, l ...int) api.Iso {
	m := of("2100")
	for i, no := range l {
		m.Fields = append(m.Fields, el(no, data(no, greatest, i)))
	}
	return m
}

func TestTheChaptersExample(t *testing.T) {
	refuses(t, "", api.ErrShort)
	if m, e := iso.Parse(nil); m.Mti != "" || m.Fields != nil || e != api.ErrShort {
		t.Errorf("Parse(nil): %s, error %d", named(m), e)
	}
}

func TestOrdinaryMessages(t *testing.T) {
	for _, r := range []struct {
		m api.Iso
		b string
	}{
		{of("2100"), "2100\x00\x00\x00\x00\x00\x00\x00\x00"},
		{of("0000"), "0000\x00\x00\x00\x00\x00\x00\x00\x00"},
		{of("9999"), "9999\x00\x00\x00\x00\x00\x00\x00\x00"},
		{
			of("2800", el(11, "000007"), el(12, "20260102030405"), el(32, "123")),
			"2800\x00\x30\x00\x01\x00\x00\x00\x00" + "000007" + "20260102030405" + "03123",
		},
		{
			of("2100", el(2, "4111111111111111"), el(4, "000000001250"), el(11, "000007"), el(12, "20260102030405"), el(22, "051"), el(32, "123"), el(41, "TERM0001"), el(42, "Shop           "), el(49, "978"), el(55, "\x95\x01\x07")),
			"2100\x50\x30\x04\x01\x00\xc0\x82\x00" + "164111111111111111" + "000000001250" + "000007" + "20260102030405" + "051" + "03123" + "TERM0001" + "Shop           " + "978" + "003\x95\x01\x07",
		},
		{
			of("2110", el(37, "RRN000000001"), el(38, "A1b2C3"), el(39, "000"), el(63, " ")),
			"2110\x00\x00\x00\x00\x0e\x00\x00\x02" + "RRN000000001" + "A1b2C3" + "000" + "001 ",
		},
		{
			of("2420", el(25, "4021"), el(56, "00000720260102030405"), el(102, "DE00 1"), el(120, "\x00\xff")),
			"2420\x80\x00\x00\x80\x00\x00\x01\x00\x00\x00\x00\x00\x04\x00\x01\x00" + "4021" + "00000720260102030405" + "06DE00 1" + "0002\x00\xff",
		},
		{of("2100", el(103, "x")), "2100\x80\x00\x00\x00\x00\x00\x00\x00\x00\x00\x00\x00\x02\x00\x00\x0001x"},
		{of("2100", el(2, "1")), "2100\x40\x00\x00\x00\x00\x00\x00\x00011"},
	} {
		packs(t, r.m, r.b, api.OK)
		parses(t, r.b, r.m, api.OK)
	}
}

func TestElementsAlone(t *testing.T) {
	for _, no := range known() {
		for _, greatest := range []bool{false, true} {
			m := whole(greatest, no)
			b, e := element.Write(m.Fields[0])
			if e != api.OK {
				t.Fatal(no, e)
			}
			packs(t, m, "2100"+bits(no)+string(b), api.OK)
			parses(t, "2100"+bits(no)+string(b), m, api.OK)
		}
	}
}

func TestElementsByTwo(t *testing.T) {
	for i, low := range known() {
		for _, high := range known()[i+1:] {
			held(t, whole(false, low, high))
			held(t, whole(true, low, high))
			packs(t, whole(true, high, low), "", api.ErrArg)
			packs(t, whole(true, low, high, high), "", api.ErrArg)
			packs(t, whole(true, low, low, high), "", api.ErrArg)
		}
	}
}

func TestAllElements(t *testing.T) {
	held(t, whole(false, known()...))
	m := whole(true, known()...)
	held(t, m)
	// The greatest message that there is.
	b, e := iso.Pack(m)
	if len(b) != 4+16+1926 || e != api.OK {
		t.Errorf("%d bytes, error %d", len(b), e)
	}
	for at := range m.Fields {
		held(t, of("2100", slices.Delete(slices.Clone(m.Fields), at, at+1)...))
	}
}

func TestMti(t *testing.T) {
	const behind = "\x40\x00\x00\x00\x00\x00\x00\x000212"
	for at := range 4 {
		for x := range 256 {
			mti := []byte("0959")
			mti[at] = byte(x)
			m := of(string(mti), el(2, "12"))
			if '0' <= x && x <= '9' {
				packs(t, m, string(mti)+behind, api.OK)
				parses(t, string(mti)+behind, m, api.OK)
				continue
			}
			packs(t, m, "", api.ErrDigit)
			refuses(t, string(mti)+behind, api.ErrDigit)
			// None behind it: still the digits count.
			refuses(t, string(mti), api.ErrDigit)
		}
	}
	for n := range 4 {
		refuses(t, "2100"[:n], api.ErrShort)
		// Too few bytes: it is not asked what they are.
		refuses(t, "xyz\xff"[:n], api.ErrShort)
	}
	for n := range 300 {
		if n != 4 {
			packs(t, of(strings.Repeat("1", n), el(2, "12")), "", api.ErrDigit)
			packs(t, of(strings.Repeat("1", n)), "", api.ErrDigit)
		}
	}
	for _, s := range []string{"+100", "-100", " 100", "100 ", "1e10", "0x10", "1_00", "10.0", "٠٠", "٠١٢٣", "210\x00", "2100\x00", "\xff100"} {
		packs(t, of(s), "", api.ErrDigit)
		packs(t, of(s, el(2, "12")), "", api.ErrDigit)
		if len(s) == 4 {
			refuses(t, s+behind, api.ErrDigit)
		}
	}
}

func TestNumbersInPack(t *testing.T) {
	for no := -300; no < 600; no++ {
		want := api.OK
		switch {
		case no < 2 || no > 128 || no == 65:
			want = api.ErrArg
		case !slices.Contains(known(), no):
			want = api.ErrElement
		}
		for _, s := range []string{"", "1", "12", "\xff"} {
			if want != api.OK {
				packs(t, of("2100", el(no, s)), "", want)
			}
			held(t, of("2100", el(no, s)))
			held(t, of("2100", el(11, "000007"), el(no, s)))
			held(t, of("2100", el(no, s), el(103, "x")))
		}
	}
	for _, no := range []int{math.MaxInt, math.MinInt, math.MaxInt32, math.MinInt32, 1<<32 + 2, 1<<8 + 2, 2 - 1<<8, 1<<62 + 2, -2} {
		packs(t, of("2100", el(no, "12")), "", api.ErrArg)
		packs(t, of("2100", el(2, "12"), el(no, "12")), "", api.ErrArg)
	}
	// More than there can be.
	packs(t, of("2100", make([]api.Element, 100_000)...), "", api.ErrArg)
}

// faulty is what is wrong in an element, and the error for it.
type faulty struct {
	api.Element
	e api.Errno
}

// faults are elements that are refused, rising.
func faults() []faulty {
	return []faulty{
		{el(2, ""), api.ErrLength},
		{el(3, "12"), api.ErrElement},
		{el(4, "00000000000x"), api.ErrType},
		{el(11, "0000071"), api.ErrLength},
		{el(12, "2026010203040\x00"), api.ErrType},
		{el(22, "12"), api.ErrLength},
		{el(64, "12"), api.ErrElement},
		{el(66, ""), api.ErrElement},
		{el(102, "\x7f"), api.ErrType},
		{el(120, strings.Repeat("a", 1000)), api.ErrLength},
		{el(128, "1"), api.ErrElement},
	}
}

func TestWhichErrorCountsInPack(t *testing.T) {
	for i, a := range faults() {
		packs(t, of("2100", a.Element), "", a.e)
		for _, b := range faults()[i+1:] {
			// The first that is met; but the Mti ahead of all, and the numbers behind it.
			packs(t, of("2100", a.Element, b.Element), "", a.e)
			packs(t, of("2100", b.Element, a.Element), "", api.ErrArg)
			packs(t, of("210", b.Element, a.Element), "", api.ErrDigit)
			packs(t, of("21x0", a.Element, b.Element), "", api.ErrDigit)
		}
		for _, no := range []int{1, 0, -1, 65, 129} {
			packs(t, of("2100", a.Element, el(no, "12")), "", api.ErrArg)
			packs(t, of("2100", el(no, "12"), a.Element), "", api.ErrArg)
			packs(t, of("", a.Element, el(no, "12")), "", api.ErrDigit)
		}
		// With what is right ahead of it and behind it.
		var all []api.Element
		for _, no := range known() {
			if no != a.No {
				all = append(all, el(no, data(no, true, 1)))
			}
		}
		at := slices.IndexFunc(all, func(x api.Element) bool { return x.No > a.No })
		if at < 0 {
			at = len(all)
		}
		packs(t, of("2100", slices.Insert(slices.Clone(all), at, a.Element)...), "", a.e)
		held(t, of("2100", all...))
	}
}

func TestWhichErrorCountsInParse(t *testing.T) {
	more := strings.Repeat("x", api.MaxFrame)
	for _, r := range []struct {
		b    string
		want api.Errno
	}{
		// Too much, whatever it is.
		{more + "x", api.ErrBig},
		{"2100" + bits() + more, api.ErrBig},
		{"2100" + bits(3) + more, api.ErrBig},
		{"2100" + bits(65) + more, api.ErrBig},
		{"2100" + bits(2) + "0212" + more, api.ErrBig},
		// Too few bytes for an Mti, ahead of what they are.
		{"xxx", api.ErrShort},
		// What they are, ahead of the map.
		{"xxxx", api.ErrDigit},
		{"210x" + bits()[:7], api.ErrDigit},
		{"210x" + bits(3), api.ErrDigit},
		{"210x" + bits(1) + bits(), api.ErrDigit},
		{"x100" + bits(2) + "0x", api.ErrDigit},
		{more[:api.MaxFrame], api.ErrDigit},
		// The map, ahead of the elements: whether it is there, then what it is.
		{"2100", api.ErrShort},
		{"2100" + bits(3)[:7], api.ErrShort},
		{"2100" + bits(1, 3), api.ErrShort},
		{"2100" + bits(1, 3) + bits()[:7], api.ErrShort},
		{"2100" + bits(1, 3) + bits(), api.ErrMap},
		{"2100" + bits(3, 65), api.ErrMap},
		{"2100" + bits(65, 66), api.ErrMap},
		{"2100" + bits(2, 65, 102) + "0x", api.ErrMap},
		// The elements, the first that is met ahead of others.
		{"2100" + bits(3), api.ErrElement},
		{"2100" + bits(2, 3), api.ErrShort},
		{"2100" + bits(2, 3) + "0x", api.ErrDigit},
		{"2100" + bits(2, 3) + "00", api.ErrLength},
		{"2100" + bits(2, 3) + "20", api.ErrLength},
		{"2100" + bits(2, 3) + "02x", api.ErrShort},
		{"2100" + bits(2, 3) + "02xx", api.ErrType},
		{"2100" + bits(2, 3) + "0212", api.ErrElement},
		{"2100" + bits(3, 11) + "00000x", api.ErrElement},
		{"2100" + bits(11, 12) + "00000x", api.ErrType},
		{"2100" + bits(11, 12) + "000007", api.ErrShort},
		{"2100" + bits(11, 12) + "000007x", api.ErrShort},
		{"2100" + bits(11, 32) + "0000070x", api.ErrDigit},
		{"2100" + bits(11, 102) + "00000729", api.ErrLength},
		{"2100" + bits(11, 128) + "000007", api.ErrElement},
		{"2100" + bits(11, 66, 102) + "000007", api.ErrElement},
		// What is left, behind all of them.
		{"2100" + bits() + "x", api.ErrLength},
		{"2100" + bits(2) + "02123", api.ErrLength},
		{"2100" + bits(2) + "0x123", api.ErrDigit},
		{"2100" + bits(2) + "021x3", api.ErrType},
		{"2100" + bits(2, 11) + "02123", api.ErrShort},
	} {
		refuses(t, r.b, r.want)
		asked(t, r.b)
	}
}

func TestEachCut(t *testing.T) {
	for _, m := range []api.Iso{of("2100"), whole(false, 2), whole(true, 2, 11, 12), whole(false, 11, 103), whole(false, known()...), whole(true, known()...)} {
		b, e := packed(m)
		if e != api.OK {
			t.Fatal(e)
		}
		for cut := range len(b) {
			refuses(t, b[:cut], api.ErrShort)
			// What is missing stands in the room behind, where it plays no part.
			if _, e := iso.Parse([]byte(b)[:cut]); e != api.ErrShort {
				t.Fatalf("the first %d bytes of %s: error %d", cut, named(m), e)
			}
		}
		parses(t, b, m, api.OK)
	}
}

func TestWhatIsLeft(t *testing.T) {
	for _, m := range []api.Iso{of("2100"), whole(true, 2), whole(false, 120), whole(true, 11, 12, 32), whole(true, known()...)} {
		b, e := packed(m)
		if e != api.OK {
			t.Fatal(e)
		}
		for x := range 256 {
			refuses(t, b+string([]byte{byte(x)}), api.ErrLength)
		}
		for _, behind := range []string{b, "0212", "\x00\x00", strings.Repeat("\x00", api.MaxFrame-len(b))} {
			refuses(t, b+behind, api.ErrLength)
		}
		refuses(t, b+strings.Repeat("\x00", api.MaxFrame-len(b)+1), api.ErrBig)
		parses(t, b, m, api.OK)
	}
}

func TestTooMuch(t *testing.T) {
	for n := api.MaxFrame - 3; n < api.MaxFrame+300; n++ {
		want := api.ErrBig
		if n <= api.MaxFrame {
			want = api.ErrLength
		}
		refuses(t, strings.Repeat("0", 4)+strings.Repeat("\x00", n-4), want)
		want = api.ErrBig
		if n <= api.MaxFrame {
			want = api.ErrDigit
		}
		refuses(t, strings.Repeat("x", n), want)
	}
	for _, n := range []int{2 * api.MaxFrame, 1 << 16, 1<<16 + 12, 1 << 22} {
		refuses(t, strings.Repeat("0", 4)+strings.Repeat("\x00", n-4), api.ErrBig)
	}
}

func TestEachBitOfTheMap(t *testing.T) {
	for right, top := range map[string]int{"2100" + bits(2, 11) + "0212000007": 64, "2100" + bits(2, 102, 103) + "021202ab01c": 128} {
		for n := 1; n <= top; n++ {
			b := []byte(right)
			b[4+(n-1)/8] ^= 128 >> ((n - 1) % 8)
			asked(t, string(b))
		}
	}
	for n := 2; n <= 128; n++ {
		behind := ""
		if slices.Contains(known(), n) {
			x, _ := element.Write(el(n, data(n, true, n)))
			behind = string(x)
		}
		asked(t, "2100"+bits(n)+behind)
		asked(t, "2100"+bits(n)+behind+"x")
		asked(t, "2100"+bits(n))
	}
}

func TestAllShortInputsBehindTheMap(t *testing.T) {
	few := []byte("0123x \xff")
	for _, l := range [][]int{{}, {2}, {22}, {2, 22}, {22, 39}, {2, 32}, {32, 102}, {3}, {22, 23}, {60}, {2, 102, 103}} {
		var grow func(b string, left int)
		grow = func(b string, left int) {
			asked(t, "2110"+bits(l...)+b)
			if left == 0 {
				return
			}
			for _, x := range few {
				grow(b+string([]byte{x}), left-1)
			}
		}
		grow("", 5)
	}
}

func TestAllShortInputs(t *testing.T) {
	few := []byte("09/:a\x00\xff")
	var grow func(b string, left int)
	grow = func(b string, left int) {
		asked(t, b)
		asked(t, b+bits(2)+"0212")
		want, fault := packed(of(b))
		packs(t, of(b), want, fault)
		if left == 0 {
			return
		}
		for _, x := range few {
			grow(b+string([]byte{x}), left-1)
		}
	}
	grow("", 5)
}

// chance is a message as it may come, of some elements.
func chance(r *rand.Rand) api.Iso {
	m := of(strconv.Itoa(1000 + r.Intn(9000)))
	often := 1 + r.Intn(8)
	for _, no := range known() {
		if r.Intn(often) > 0 {
			continue
		}
		f, _ := element.Of(no)
		d := data(no, true, r.Intn(1000))
		if f.Digits > 0 {
			d = d[:1+r.Intn(len(d))]
		}
		m.Fields = append(m.Fields, el(no, d))
	}
	return m
}

// turned is b with one byte taken out, put in, or another one.
func turned(r *rand.Rand, b string) string {
	at := r.Intn(len(b) + 1)
	x := string([]byte{byte(r.Intn(256))})
	if r.Intn(2) == 0 {
		x = digits[r.Intn(10):][:1]
	}
	behind := b[at:]
	if len(behind) > 0 && r.Intn(3) > 0 {
		behind = behind[1:]
	}
	if r.Intn(3) == 0 {
		x = ""
	}
	return b[:at] + x + behind
}

// mixed is m with one element taken out, put in, set elsewhere, or turned.
func mixed(r *rand.Rand, m api.Iso) api.Iso {
	all := slices.Clone(m.Fields)
	if len(all) == 0 {
		return of(turned(r, m.Mti), el(r.Intn(140), "12"))
	}
	at, to := r.Intn(len(all)), r.Intn(len(all))
	switch r.Intn(6) {
	case 0:
		all = slices.Delete(all, at, at+1)
	case 1:
		all = slices.Insert(all, at, el(r.Intn(140)-5, "12"))
	case 2:
		all[at], all[to] = all[to], all[at]
	case 3:
		all[at] = el(all[at].No, turned(r, string(all[at].Data)))
	case 4:
		all[at].No = known()[r.Intn(24)]
	default:
		return of(turned(r, m.Mti), all...)
	}
	return of(m.Mti, all...)
}

func TestChanceMessages(t *testing.T) {
	r := rand.New(rand.NewSource(17))
	for range 12_000 {
		m := chance(r)
		held(t, m)
		held(t, mixed(r, m))
		held(t, mixed(r, mixed(r, m)))
		b, e := packed(m)
		if e != api.OK {
			t.Fatal(e)
		}
		asked(t, b)
		asked(t, turned(r, b))
		asked(t, turned(r, turned(r, b)))
		// What is turned ahead of the data is met oftener here.
		cut := min(len(b), 24)
		asked(t, turned(r, b[:cut])+b[cut:])
	}
}

func TestChanceMaps(t *testing.T) {
	r := rand.New(rand.NewSource(1717))
	for range 20_000 {
		var l []int
		for range 1 + r.Intn(4) {
			l = append(l, 1+r.Intn(128))
		}
		for range r.Intn(3) {
			l = append(l, known()[r.Intn(24)])
		}
		asked(t, "0200"+bits(l...)+strings.Repeat("01", r.Intn(40)))
	}
}

// fill turns each byte of b, and of the room behind it.
func fill(b []byte) {
	all := b[:cap(b)]
	for i := range all {
		all[i] ^= 255
	}
}

func TestCallsLeaveWhatTheyAreGiven(t *testing.T) {
	m := whole(true, known()...)
	b, e := packed(m)
	if e != api.OK {
		t.Fatal(e)
	}
	room := []byte(b + "behind")
	for n := range len(room) + 1 {
		iso.Parse(room[:n])
		if string(room) != b+"behind" {
			t.Fatalf("Parse of %d bytes wrote into what it was given, or behind it", n)
		}
	}
	// A list with room behind it, of data with room behind them.
	var all []api.Element
	for _, x := range m.Fields {
		all = append(all, api.Element{No: x.No, Data: append(bytes.Clone(x.Data), "behind"...)[:len(x.Data)]})
	}
	for n := range len(all) + 1 {
		for _, mti := range []string{"2100", "21x0"} {
			iso.Pack(of(mti, all[:n]...))
			if n > 0 {
				iso.Pack(of(mti, all[n-1], all[0]))
			}
			for i, x := range all {
				if !same(x, m.Fields[i]) || string(x.Data[:len(x.Data)+6]) != string(x.Data)+"behind" {
					t.Fatalf("Pack of %d elements wrote into what it was given, or behind it", n)
				}
			}
		}
	}
}

func TestAnswersAreNewMemory(t *testing.T) {
	m := whole(true, known()...)
	b, e := packed(m)
	if e != api.OK {
		t.Fatal(e)
	}
	given := []byte(b + "behind")[:len(b)]
	first, _ := iso.Parse(given)
	second, _ := iso.Parse(given)
	for i := range first.Fields {
		fill(first.Fields[i].Data)
		if string(given[:len(b)+6]) != b+"behind" {
			t.Fatalf("who writes into the data of %d writes into what was given", first.Fields[i].No)
		}
		for j := i + 1; j < len(first.Fields); j++ {
			if !same(first.Fields[j], m.Fields[j]) {
				t.Fatalf("who writes into the data of %d writes into those of %d", first.Fields[i].No, first.Fields[j].No)
			}
		}
	}
	clear(first.Fields[:cap(first.Fields)])
	fill(given)
	if second.Mti != m.Mti || !slices.EqualFunc(second.Fields, m.Fields, same) {
		t.Fatal("what Parse told is what was given, or told another time")
	}
	one, _ := iso.Pack(m)
	two, _ := iso.Pack(m)
	fill(one)
	if string(two) != b || !slices.EqualFunc(second.Fields, m.Fields, same) {
		t.Fatal("who writes into what Pack told changes what was given, or told another time")
	}
	for _, x := range m.Fields {
		fill(x.Data)
	}
	if string(two) != b {
		t.Fatal("what Pack told is what was given")
	}
}

func TestCallsHangOnTheirArgumentsAlone(t *testing.T) {
	ask := func() {
		for seed := range 40 {
			iso.Parse([]byte("2100" + bits(2, 11) + "0212"))
			iso.Pack(of("2100", el(2, "12"), el(2, "12")))
			m := of(strconv.Itoa(2000 + seed))
			for _, no := range known()[seed%20:] {
				m.Fields = append(m.Fields, el(no, data(no, seed%2 == 0, seed)))
			}
			want, _ := packed(m)
			if b, e := iso.Pack(m); string(b) != want || e != api.OK {
				t.Errorf("Pack(%s): %s, error %d", named(m), short(string(b)), e)
			}
			if got, e := iso.Parse([]byte(want)); got.Mti != m.Mti || !slices.EqualFunc(got.Fields, m.Fields, same) || e != api.OK {
				t.Errorf("Parse(%s): %s, error %d", short(want), named(got), e)
			}
		}
	}
	ask()
	var wait sync.WaitGroup
	for range 8 {
		wait.Go(ask)
	}
	wait.Wait()
}
