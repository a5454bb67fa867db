package element_test

import (
	"bytes"
	"math"
	"math/rand"
	"slices"
	"strconv"
	"strings"
	"sync"
	"testing"

	"comptoir/api"
	"comptoir/element"
)

// rows is the chapter's table as it stands there.
const rows = `2 FNum 2 19; 4 FNum 0 12; 11 FNum 0 6; 12 FNum 0 14; 22 FNum 0 3; 25 FNum 0 4; 32 FNum 2 11; 37 FAln 0 12; 38 FAln 0 6; 39 FNum 0 3; 41 FText 0 8; 42 FText 0 15; 43 FText 2 40; 48 FText 3 8; 49 FNum 0 3; 55 FByte 3 255; 56 FNum 0 20; 60 FText 3 100; 61 FText 3 100; 62 FText 3 100; 63 FText 3 100; 102 FText 2 28; 103 FText 2 28; 120 FByte 4 999`

// digits, letters and signs are what the kinds let.
const (
	digits  = "0123456789"
	letters = "ABCDEFGHIJKLMNOPQRSTUVWXYZabcdefghijklmnopqrstuvwxyz"
	signs   = " !\"#$%&'()*+,-./:;<=>?@[\\]^_`{|}~" + digits + letters
)

// kind is one of the four, its name as the table has it, and the bytes that it lets.
type kind struct {
	no   int
	name string
	lets string
}

// kinds are all four.
var kinds = sync.OnceValue(func() []kind {
	var all []byte
	for x := range 256 {
		all = append(all, byte(x))
	}
	return []kind{{api.FNum, "FNum", digits}, {api.FAln, "FAln", digits + letters}, {api.FText, "FText", signs}, {api.FByte, "FByte", string(all)}}
})

// format is a row of the table, read.
type format struct {
	no, digits, top int
	kind            kind
}

// formats are those of the table, made once and only read.
var formats = sync.OnceValue(func() []format {
	var out []format
	for _, r := range strings.Split(rows, "; ") {
		f := strings.Fields(r)
		at := slices.IndexFunc(kinds(), func(k kind) bool { return k.name == f[1] })
		out = append(out, format{number(f[0]), number(f[2]), number(f[3]), kinds()[at]})
	}
	return out
})

// spares are the spare ones.
func spares() []int {
	return []int{43, 60, 61, 62, 63, 102, 103, 120}
}

// number is what the digits of s tell.
func number(s string) int {
	n, err := strconv.Atoi(s)
	if err != nil {
		panic(err)
	}
	return n
}

// find is the format of that number; nil if there is none.
func find(no int) *format {
	for _, f := range formats() {
		if f.no == no {
			return &f
		}
	}
	return nil
}

// least is how many bytes the data have at least.
func (f format) least() int {
	if f.digits == 0 {
		return f.top
	}
	return 1
}

// fits tells whether data may have so many bytes.
func (f format) fits(n int) bool {
	return f.least() <= n && n <= f.top
}

// lets tells whether each byte is one that the kind lets.
func (f format) lets(b []byte) bool {
	for _, x := range b {
		if !strings.Contains(f.kind.lets, string([]byte{x})) {
			return false
		}
	}
	return true
}

// ahead is n as it stands ahead of data.
func (f format) ahead(n int) string {
	if f.digits == 0 {
		return ""
	}
	s := strconv.Itoa(n)
	return strings.Repeat("0", max(0, f.digits-len(s))) + s
}

// data are n bytes that the kind lets, of no plain pattern; those of other seeds differ.
func (f format) data(n, seed int) []byte {
	out := make([]byte, n)
	x := uint32(seed)*2_654_435_761 + uint32(f.no) + 7
	for i := range out {
		x = x*1_664_525 + 1_013_904_223
		out[i] = f.kind.lets[int(x>>8)%len(f.kind.lets)]
	}
	return out
}

// wrong are the bytes that the kind does not let.
func (f format) wrong() []byte {
	var out []byte
	for x := range 256 {
		if !f.lets([]byte{byte(x)}) {
			out = append(out, byte(x))
		}
	}
	return out
}

// checked is what the chapter tells of Check, asked anew.
func checked(e api.Element) api.Errno {
	f := find(e.No)
	switch {
	case f == nil:
		return api.ErrElement
	case !f.fits(len(e.Data)):
		return api.ErrLength
	case !f.lets(e.Data):
		return api.ErrType
	}
	return api.OK
}

// wrote is what the chapter tells of Write, asked anew.
func wrote(e api.Element) (string, api.Errno) {
	if fault := checked(e); fault != api.OK {
		return "", fault
	}
	return find(e.No).ahead(len(e.Data)) + string(e.Data), api.OK
}

// told is what the chapter tells of Read, asked anew.
func told(no int, b []byte) (string, int, api.Errno) {
	f := find(no)
	if f == nil {
		return "", 0, api.ErrElement
	}
	size := f.top
	if f.digits > 0 {
		if len(b) < f.digits {
			return "", 0, api.ErrShort
		}
		size = 0
		for _, x := range b[:f.digits] {
			if !strings.Contains(digits, string([]byte{x})) {
				return "", 0, api.ErrDigit
			}
			size = 10*size + int(x-'0')
		}
		if size < 1 || size > f.top {
			return "", 0, api.ErrLength
		}
	}
	whole := f.digits + size
	if len(b) < whole {
		return "", 0, api.ErrShort
	}
	if !f.lets(b[f.digits:whole]) {
		return "", 0, api.ErrType
	}
	return string(b[f.digits:whole]), whole, api.OK
}

// short names bytes in what a test tells.
func short(b []byte) string {
	if len(b) > 60 {
		return strconv.Itoa(len(b)) + " bytes, from " + short(b[:30])
	}
	return strconv.Quote(string(b))
}

// checks fails unless Check and Write answer what is wanted.
func checks(t *testing.T, no int, data []byte, want string, fault api.Errno) {
	t.Helper()
	e := api.Element{No: no, Data: data}
	if got := element.Check(e); got != fault {
		t.Fatalf("Check(%d, %s): error %d; want %d", no, short(data), got, fault)
	}
	if got, f := element.Write(e); string(got) != want || f != fault {
		t.Fatalf("Write(%d, %s): %s, error %d; want %s, error %d", no, short(data), short(got), f, short([]byte(want)), fault)
	}
}

// reads fails unless Read answers just that.
func reads(t *testing.T, no int, b []byte, want string, n int, fault api.Errno) {
	t.Helper()
	got, read, e := element.Read(no, b)
	if string(got) != want || read != n || e != fault {
		t.Fatalf("Read(%d, %s): %s, %d, error %d; want %s, %d, error %d", no, short(b), short(got), read, e, short([]byte(want)), n, fault)
	}
}

// held fails unless Check and Write of these, and Read of what they are, answer what the chapter tells.
func held(t *testing.T, no int, data []byte) {
	t.Helper()
	want, fault := wrote(api.Element{No: no, Data: data})
	checks(t, no, data, want, fault)
	if fault == api.OK {
		// With something behind it, which plays no part.
		reads(t, no, []byte(want), string(data), len(want), api.OK)
		reads(t, no, []byte(want+"7"), string(data), len(want), api.OK)
		reads(t, no, []byte(want+"\xff\x00 "), string(data), len(want), api.OK)
	}
}

// asked fails unless Read of b answers what the chapter tells, and what it told is written as it stood there.
func asked(t *testing.T, no int, b []byte) {
	t.Helper()
	want, n, fault := told(no, b)
	reads(t, no, b, want, n, fault)
	if fault == api.OK {
		checks(t, no, []byte(want), string(b[:n]), api.OK)
	}
}

// far are numbers that no element has.
func far() []int {
	out := []int{math.MaxInt, math.MinInt, math.MaxInt32, math.MinInt32, math.MaxUint32, 1 << 40, 1 << 62}
	for _, f := range formats() {
		for up := 7; up < 63; up++ {
			out = append(out, f.no|1<<up)
		}
		out = append(out, -f.no, f.no|math.MinInt, f.no+128, f.no+256, f.no+65_536, f.no+1<<32)
	}
	return out
}

func TestTheChaptersExample(t *testing.T) {
	checks(t, 2, []byte("12"), "0212", api.OK)
	reads(t, 2, []byte("0212"), "12", 4, api.OK)
}

func TestOf(t *testing.T) {
	rising := 0
	try := func(no int) {
		want, is := api.Format{}, false
		if f := find(no); f != nil {
			want, is = api.Format{No: no, Kind: f.kind.no, Digits: f.digits, Max: f.top}, true
			rising++
		}
		if got, ok := element.Of(no); got != want || ok != is {
			t.Errorf("Of(%d): %+v, %v; want %+v, %v", no, got, ok, want, is)
		}
	}
	for no := -2000; no < 2000; no++ {
		try(no)
	}
	for _, no := range far() {
		try(no)
	}
	if rising != 24 || len(formats()) != 24 {
		t.Errorf("%d of %d were asked", rising, len(formats()))
	}
}

func TestSpare(t *testing.T) {
	for no := -2000; no < 2000; no++ {
		if got := element.Spare(no); got != slices.Contains(spares(), no) {
			t.Errorf("Spare(%d): %v", no, got)
		}
	}
	for _, no := range far() {
		if element.Spare(no) {
			t.Errorf("Spare(%d)", no)
		}
	}
}

func TestOrdinaryElements(t *testing.T) {
	for _, r := range []struct {
		no            int
		data, written string
	}{
		{2, "4111111111111111", "164111111111111111"},
		{4, "000000001250", "000000001250"},
		{11, "000007", "000007"},
		{12, "20260102030405", "20260102030405"},
		{22, "051", "051"},
		{25, "4021", "4021"},
		{32, "12345", "0512345"},
		{37, "RRN000000001", "RRN000000001"},
		{38, "A1b2C3", "A1b2C3"},
		{39, "000", "000"},
		{41, "TERM0001", "TERM0001"},
		{42, "Shop           ", "Shop           "},
		{43, "Somewhere", "09Somewhere"},
		{48, "0000002A", "0080000002A"},
		{49, "978", "978"},
		{55, "\x95\x01\x07", "003\x95\x01\x07"},
		{56, "00000720260102030405", "00000720260102030405"},
		{60, "a", "001a"},
		{61, "two words", "009two words"},
		{62, "~", "001~"},
		{63, " ", "001 "},
		{102, "DE00 1", "06DE00 1"},
		{103, "x", "01x"},
		{120, "\x00\xff", "0002\x00\xff"},
	} {
		checks(t, r.no, []byte(r.data), r.written, api.OK)
		reads(t, r.no, []byte(r.written), r.data, len(r.written), api.OK)
		reads(t, r.no, []byte(r.written+"0212"), r.data, len(r.written), api.OK)
	}
}

func TestOthersAreNone(t *testing.T) {
	try := func(no int) {
		for _, s := range []string{"", "1", "12", "0212", "000", "x", "\xff", "0x", "99999", strings.Repeat("1", 2000)} {
			checks(t, no, []byte(s), "", api.ErrElement)
			reads(t, no, []byte(s), "", 0, api.ErrElement)
		}
		checks(t, no, nil, "", api.ErrElement)
		reads(t, no, nil, "", 0, api.ErrElement)
	}
	for no := -10; no < 300; no++ {
		if find(no) == nil {
			try(no)
		}
	}
	for _, no := range far() {
		try(no)
	}
}

func TestEachLength(t *testing.T) {
	for _, f := range formats() {
		held(t, f.no, nil)
		for n := range f.top + 120 {
			b := f.data(n, n)
			held(t, f.no, b)
			want := api.OK
			if n > f.top || n < 1 || f.digits == 0 && n != f.top {
				want = api.ErrLength
			}
			if got := element.Check(api.Element{No: f.no, Data: b}); got != want {
				t.Fatalf("Check of %d bytes of %d: error %d; want %d", n, f.no, got, want)
			}
		}
		// What goes round in a byte, or two, or in so many digits, is not lost.
		for _, n := range []int{256, 256 + f.top, 512 + f.top, 1000 + f.top, 10_000, 10_000 + f.top, 65_536 + f.top, 1 << 22} {
			held(t, f.no, f.data(n, n))
		}
	}
}

func TestEachByte(t *testing.T) {
	for _, f := range formats() {
		n := f.least() + (f.top-f.least())/2
		for x := range 256 {
			for _, at := range []int{0, n / 2, n - 1} {
				b := f.data(n, x)
				b[at] = byte(x)
				held(t, f.no, b)
				asked(t, f.no, append([]byte(f.ahead(n)), b...))
			}
			held(t, f.no, []byte{byte(x)})
		}
		// Wherever one stands that may not be.
		wrong := f.wrong()
		for at := range n {
			if len(wrong) == 0 {
				break
			}
			b := f.data(n, at)
			b[at] = wrong[at%len(wrong)]
			checks(t, f.no, b, "", api.ErrType)
			reads(t, f.no, append([]byte(f.ahead(n)), b...), "", 0, api.ErrType)
		}
	}
}

func TestWhichBytesAreOfWhichKind(t *testing.T) {
	for _, r := range []struct {
		no  int
		yes string
		not string
	}{
		{22, "09", "/:aA \x00\xff+-."},
		{38, "09azAZ", "/:@[`{ \x00\x7f\x80\xff_-."},
		{60, " ~09azAZ/:@[`{_\"<>&", "\x00\t\n\r\x1f\x7f\x80\xa0\xc3\xff"},
		{55, "\x00\x1f 09azAZ~\x7f\x80\xff", ""},
	} {
		f := find(r.no)
		for _, x := range []byte(r.yes) {
			b := bytes.Repeat([]byte{x}, f.top)
			checks(t, r.no, b, f.ahead(f.top)+string(b), api.OK)
		}
		for _, x := range []byte(r.not) {
			checks(t, r.no, bytes.Repeat([]byte{x}, f.top), "", api.ErrType)
		}
	}
	// Characters of more bytes than one are none that FText lets.
	for _, s := range []string{"é", "€", "𝄞", "aé"} {
		checks(t, 60, []byte(s), "", api.ErrType)
	}
}

func TestReadOfEachLengthAhead(t *testing.T) {
	for _, f := range formats() {
		if f.digits == 0 {
			continue
		}
		most := 1
		for range f.digits {
			most *= 10
		}
		rest := f.data(f.top+3, 9)
		for n := range most {
			head := []byte(f.ahead(n))
			if n < 1 || n > f.top {
				// It is not asked whether so many are there.
				reads(t, f.no, head, "", 0, api.ErrLength)
				reads(t, f.no, append(head, rest...), "", 0, api.ErrLength)
				continue
			}
			reads(t, f.no, append(head, rest...), string(rest[:n]), f.digits+n, api.OK)
			reads(t, f.no, append(head, rest[:n]...), string(rest[:n]), f.digits+n, api.OK)
			reads(t, f.no, append(head, rest[:n-1]...), "", 0, api.ErrShort)
		}
	}
}

func TestReadOfWrongDigits(t *testing.T) {
	for _, f := range formats() {
		for at := range f.digits {
			for x := range 256 {
				b := append([]byte(f.ahead(1)), f.data(f.top, x)...)
				b[at] = byte(x)
				asked(t, f.no, b)
				// None behind them: still the digits count.
				asked(t, f.no, b[:f.digits])
				// Too few of them: it is not asked what they are.
				for n := range f.digits {
					reads(t, f.no, b[:n], "", 0, api.ErrShort)
				}
			}
		}
		if f.digits == 0 {
			continue
		}
		for _, head := range []string{"+1", "-1", " 1", "1 ", "1.", "0x", "1e", "1_", ".1", "\x00\x01", "٠"} {
			b := append([]byte(strings.Repeat("0", f.digits-2)+head), f.data(f.top, 4)...)
			reads(t, f.no, b, "", 0, api.ErrDigit)
		}
	}
}

func TestReadOfEachCut(t *testing.T) {
	for _, f := range formats() {
		for _, n := range []int{f.least(), f.least() + (f.top-f.least())/2, f.top} {
			data := f.data(n, 3)
			whole := append([]byte(f.ahead(n)), data...)
			for cut := range whole {
				// What is missing stands in the room behind, where it plays no part.
				reads(t, f.no, whole[:cut], "", 0, api.ErrShort)
				reads(t, f.no, bytes.Clone(whole[:cut]), "", 0, api.ErrShort)
			}
			reads(t, f.no, whole, string(data), len(whole), api.OK)
		}
		reads(t, f.no, nil, "", 0, api.ErrShort)
		reads(t, f.no, []byte{}, "", 0, api.ErrShort)
	}
}

func TestWhichErrorCountsInRead(t *testing.T) {
	for _, r := range []struct {
		no   int
		b    string
		want api.Errno
	}{
		// No element, whatever is there.
		{3, "", api.ErrElement},
		{3, "0x", api.ErrElement},
		{1, "00", api.ErrElement},
		// Too few digits of a length, ahead of what they are.
		{2, "x", api.ErrShort},
		{48, "xx", api.ErrShort},
		{120, "xxx", api.ErrShort},
		// What they are, ahead of the length that they might tell, and of what is there.
		{2, "9x", api.ErrDigit},
		{2, "x9", api.ErrDigit},
		{2, "0xa", api.ErrDigit},
		{120, "99x9", api.ErrDigit},
		// The length, ahead of whether so many are there, and of what they are.
		{2, "00", api.ErrLength},
		{2, "00a", api.ErrLength},
		{2, "20", api.ErrLength},
		{2, "20" + strings.Repeat("a", 20), api.ErrLength},
		{2, "99a", api.ErrLength},
		{120, "1000", api.ErrLength},
		{120, "9999", api.ErrLength},
		// Whether so many are there, ahead of what they are.
		{2, "03ab", api.ErrShort},
		{2, "01", api.ErrShort},
		{22, "a", api.ErrShort},
		{22, "ab", api.ErrShort},
		{60, "002\x00", api.ErrShort},
		// What they are: those alone that are read.
		{2, "03abc", api.ErrType},
		{2, "031b3", api.ErrType},
		{2, "03123a", api.OK},
		{22, "12a", api.ErrType},
		{22, "123a", api.OK},
	} {
		if _, _, e := element.Read(r.no, []byte(r.b)); e != r.want {
			t.Errorf("Read(%d, %q): error %d; want %d", r.no, r.b, e, r.want)
		}
		asked(t, r.no, []byte(r.b))
	}
}

func TestWhichErrorCountsInCheckAndWrite(t *testing.T) {
	for _, f := range formats() {
		for _, x := range f.wrong() {
			checks(t, f.no, []byte{}, "", api.ErrLength)
			checks(t, f.no, bytes.Repeat([]byte{x}, f.top+1), "", api.ErrLength)
			checks(t, f.no, bytes.Repeat([]byte{x}, f.top), "", api.ErrType)
			if f.digits == 0 {
				checks(t, f.no, bytes.Repeat([]byte{x}, f.top-1), "", api.ErrLength)
			} else {
				checks(t, f.no, []byte{x}, "", api.ErrType)
			}
		}
	}
}

func TestAllShortInputsOfRead(t *testing.T) {
	few := []byte("0129/:aZ \x00\x7f\xff")
	for _, f := range formats() {
		var grow func(b []byte, left int)
		grow = func(b []byte, left int) {
			asked(t, f.no, b)
			if left == 0 {
				return
			}
			for _, x := range few {
				grow(append(b[:len(b):len(b)], x), left-1)
			}
		}
		grow(nil, 3)
	}
}

// turned is b with one byte taken out, put in, or another one.
func turned(r *rand.Rand, b []byte) []byte {
	out := bytes.Clone(b)
	if len(out) == 0 {
		return []byte{byte(r.Intn(256))}
	}
	at := r.Intn(len(out))
	switch r.Intn(4) {
	case 0:
		return slices.Delete(out, at, at+1)
	case 1:
		return slices.Insert(out, at, byte(r.Intn(256)))
	case 2:
		out[at] = digits[r.Intn(10)]
	default:
		out[at] = byte(r.Intn(256))
	}
	return out
}

func TestChanceElements(t *testing.T) {
	r := rand.New(rand.NewSource(16))
	for range 60_000 {
		f := formats()[r.Intn(len(formats()))]
		n := f.least() + r.Intn(f.top-f.least()+1)
		b := f.data(n, r.Int())
		held(t, f.no, b)
		held(t, f.no, turned(r, b))
		whole := append([]byte(f.ahead(n)), b...)
		asked(t, f.no, turned(r, whole))
		asked(t, f.no, turned(r, turned(r, whole)))
		// As another element, which it may be too.
		asked(t, formats()[r.Intn(len(formats()))].no, whole)
		held(t, formats()[r.Intn(len(formats()))].no, b)
	}
}

func TestElementsOneBehindTheOther(t *testing.T) {
	var all []byte
	for _, f := range formats() {
		b, e := element.Write(api.Element{No: f.no, Data: f.data(f.top, 1)})
		if e != api.OK {
			t.Fatal(f.no, e)
		}
		all = append(all, b...)
	}
	for _, f := range formats() {
		b, n, e := element.Read(f.no, all)
		if e != api.OK || !bytes.Equal(b, f.data(f.top, 1)) || n != f.digits+f.top {
			t.Fatalf("Read(%d): %s, %d, error %d", f.no, short(b), n, e)
		}
		all = all[n:]
	}
	if len(all) > 0 {
		t.Errorf("%d bytes are left", len(all))
	}
}

func TestCallsLeaveWhatTheyAreGiven(t *testing.T) {
	for _, f := range formats() {
		for _, bad := range []bool{false, true} {
			whole := append([]byte(f.ahead(f.top)), f.data(f.top+50, 2)...)
			if bad {
				whole[f.digits] = 0
			}
			before := bytes.Clone(whole)
			for _, n := range []int{0, f.digits, f.digits + f.top - 1, f.digits + f.top, f.digits + f.top + 1, len(whole)} {
				element.Read(f.no, whole[:n])
				e := api.Element{No: f.no, Data: whole[f.digits:max(n, f.digits)]}
				element.Check(e)
				element.Write(e)
				if !bytes.Equal(whole, before) {
					t.Fatalf("a call of %d wrote into the %d bytes that it was given, or behind them", f.no, n)
				}
			}
		}
	}
}

func TestAnswersAreNewMemory(t *testing.T) {
	// fill writes into b, and the room behind it.
	fill := func(b []byte) {
		for i := range b[:cap(b)] {
			b[:cap(b)][i] ^= 255
		}
	}
	for _, f := range formats() {
		data := f.data(f.top, 5)
		whole := append([]byte(f.ahead(f.top)), data...)
		given := append(bytes.Clone(whole), "behind"...)
		first, _, _ := element.Read(f.no, given[:len(whole)])
		second, _, _ := element.Read(f.no, given)
		fill(first)
		if !bytes.Equal(second, data) || string(given) != string(whole)+"behind" {
			t.Fatalf("who writes into what Read of %d told changes what was given, or told another time", f.no)
		}
		fill(given)
		if !bytes.Equal(second, data) {
			t.Fatalf("what Read of %d told is what was given", f.no)
		}
		e := api.Element{No: f.no, Data: bytes.Clone(data)}
		one, _ := element.Write(e)
		two, _ := element.Write(e)
		fill(one)
		if !bytes.Equal(two, whole) || !bytes.Equal(e.Data, data) {
			t.Fatalf("who writes into what Write of %d told changes what was given, or told another time", f.no)
		}
		fill(e.Data)
		if !bytes.Equal(two, whole) {
			t.Fatalf("what Write of %d told is what was given", f.no)
		}
	}
}

func TestCallsHangOnTheirArgumentsAlone(t *testing.T) {
	ask := func() {
		for seed := range 20 {
			for _, f := range formats() {
				element.Check(api.Element{No: seed})
				element.Read(f.no, []byte("0x"))
				data := f.data(f.least()+seed*(f.top-f.least())/19, seed)
				want := f.ahead(len(data)) + string(data)
				if b, e := element.Write(api.Element{No: f.no, Data: data}); string(b) != want || e != api.OK {
					t.Errorf("Write(%d, %s): %s, error %d", f.no, short(data), short(b), e)
				}
				if b, n, e := element.Read(f.no, []byte(want)); !bytes.Equal(b, data) || n != len(want) || e != api.OK {
					t.Errorf("Read(%d, %s): %s, %d, error %d", f.no, short([]byte(want)), short(b), n, e)
				}
			}
		}
	}
	ask()
	var wait sync.WaitGroup
	for range 8 {
		wait.Go(ask)
	}
	wait.Wait()
}
