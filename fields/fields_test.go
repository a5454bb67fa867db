package fields_test

import (
	"fmt"
	"maps"
	"math"
	"math/bits"
	"math/rand"
	"regexp"
	"slices"
	"strconv"
	"strings"
	"sync"
	"testing"

	"comptoir/api"
	"comptoir/fields"
	"comptoir/iso"
	"comptoir/kinds"
	"comptoir/simple"
	"comptoir/tlv"
)

const (
	when   = "20260102030405"
	before = "20251231235959"
)

// mtis are the kinds' numbers of four digits, by the kinds.
var mtis = []string{"", "2100", "2110", "2220", "2230", "2420", "2430", "2520", "2530", "2800", "2810", "2644"}

// spares are the elements that belong to no field, rising.
var spares = []int{43, 60, 61, 62, 63, 102, 103, 120}

// ahead is how many digits of a length stand ahead of the element's data.
func ahead(no int) int {
	switch no {
	case 2, 32, 43, 102, 103:
		return 2
	case 48, 55, 60, 61, 62, 63:
		return 3
	case 120:
		return 4
	}
	return 0
}

// frame is what stands in a bitmap: data by the numbers of their elements.
type frame struct {
	mti  string
	data map[int]string
}

// with is f with those data, whatever was there.
func (f frame) with(no int, data string) frame {
	f.data = maps.Clone(f.data)
	f.data[no] = data
	return f
}

// without is f without that element.
func (f frame) without(no int) frame {
	f.data = maps.Clone(f.data)
	delete(f.data, no)
	return f
}

// named is f of another Mti.
func (f frame) named(mti string) frame {
	f.mti = mti
	return f
}

// String is the bytes of f, whether they may be or not.
func (f frame) String() string {
	all, which := "", make([]byte, 8)
	for _, no := range slices.Sorted(maps.Keys(f.data)) {
		if no > 64 && len(which) == 8 {
			which = append(which, make([]byte, 8)...)
			which[0] |= 128
		}
		which[(no-1)/8] |= 128 >> ((no - 1) % 8)
		if n := ahead(no); n > 0 {
			all += fmt.Sprintf("%0*d", n, len(f.data[no]))
		}
		all += f.data[no]
	}
	return f.mti + string(which) + all
}

// sample is an element, and how what it tells is laid into a message.
type sample struct {
	no   int
	data string
	lay  func(m *api.Message)
}

// other is the sample of a spare element.
func other(no int, data string) sample {
	return sample{no, data, func(m *api.Message) { m.Other = append(m.Other, api.Element{No: no, Data: []byte(data)}) }}
}

// samples are one of each element beside those that all must have: first what a kind may have, or not, then what plays no part there.
func samples() []sample {
	return []sample{
		{2, "4000000000000002", func(m *api.Message) { m.Pan = "4000000000000002" }},
		{4, "000000001205", func(m *api.Message) { m.Amount = 1205 }},
		{22, "051", func(m *api.Message) { m.Entry = 51 }},
		{25, "4021", func(m *api.Message) { m.Reason = "4021" }},
		{37, "ABCdef123456", func(m *api.Message) { m.Rrn = "ABCdef123456" }},
		{38, "a1B2c3", func(m *api.Message) { m.Approval = "a1B2c3" }},
		{39, "116", func(m *api.Message) { m.Action = "116" }},
		{41, "T 1     ", func(m *api.Message) { m.Terminal = "T 1" }},
		{42, "Cafe & <Co>    ", func(m *api.Message) { m.Merchant = "Cafe & <Co>" }},
		{49, "978", func(m *api.Message) { m.Currency = "978" }},
		{55, "\x9f\x02\x02\x01\xff\x95\x00", func(m *api.Message) { m.Tags = []api.Tag{{Tag: 0x9f02, Data: []byte{1, 255}}, {Tag: 0x95}} }},
		{56, "000099" + before, func(m *api.Message) { m.Origin = api.Origin{Stan: 99, Time: before} }},
		{48, "0000ABCD", func(m *api.Message) { m.Key = "0000ABCD" }},
		other(43, " a name "), other(60, "x"), other(61, "xx"), other(62, strings.Repeat("z", 100)), other(63, "~"),
		other(102, "DE00"), other(103, "1234567890123456789012345678"), other(120, "\x00\xff\r"),
	}
}

// parted is how many of the samples a kind may have, or not.
const parted = 12

// of is the frame of that kind with these samples, and what it tells if that is let.
func of(kind, set int) (frame, api.Message) {
	f := frame{mtis[kind], map[int]string{11: "000007", 12: when, 32: "00123"}}
	m := api.Message{Kind: kind, Stan: 7, Time: when, Acquirer: "00123"}
	for i, x := range samples() {
		if set>>i&1 == 1 {
			f.data[x.no] = x.data
			x.lay(&m)
		}
	}
	return f, m
}

// sum tells whether a set has both of an amount and its currency, or neither.
func sum(set int) bool {
	return set>>1&1 == set>>9&1
}

// mosts are the greatest sets of what each kind may have, worked out once, with all that plays no part.
var mosts = sync.OnceValue(func() []int {
	out := make([]int, 12)
	for set := range 1 << parted {
		for kind := 1; kind <= 11; kind++ {
			_, m := of(kind, set)
			if sum(set) && kinds.Fits(m) == api.OK && bits.OnesCount(uint(set)) >= bits.OnesCount(uint(out[kind])) {
				out[kind] = set
			}
		}
	}
	for kind := range out {
		out[kind] |= 511 << parted
	}
	return out
})

// rich is a frame of that kind with all that it may have, and what it tells.
func rich(kind int) (frame, api.Message) {
	return of(kind, mosts()[kind])
}

// number is that of digits; 0 of none.
func number(s string) int {
	n, _ := strconv.Atoi(s)
	return n
}

// known are the actions that there are.
var known = strings.Fields("000 001 002 100 101 102 104 109 110 116 117 118 121 200 400 500 800 904 907 909 911 912")

// The signs of a key, and of what stands with blanks behind.
var (
	hexed  = regexp.MustCompile(`\A[0-9A-F]{8}\z`)
	behind = regexp.MustCompile(`\A([!-~]|[!-~][ -~]*[!-~]) *\z`)
)

// there are the data of b by the numbers of their elements, and its Mti, if it is parsed.
func there(b string) (frame, api.Errno) {
	x, e := iso.Parse([]byte(b))
	f := frame{x.Mti, map[int]string{}}
	for _, y := range x.Fields {
		f.data[y.No] = string(y.Data)
	}
	return f, e
}

// decoded is what the chapter tells of b, asked anew.
func decoded(b string) (api.Message, api.Errno) {
	f, e := there(b)
	if e != api.OK {
		return api.Message{}, e
	}
	x := f.data
	has := func(no int) bool {
		_, is := x[no]
		return is
	}
	m := api.Message{
		Kind: slices.Index(mtis, f.mti), Stan: number(x[11]), Time: x[12], Acquirer: x[32], Pan: x[2], Currency: x[49],
		Amount: uint64(number(x[4])), Rrn: x[37], Merchant: strings.TrimRight(x[42], " "), Terminal: strings.TrimRight(x[41], " "),
		Approval: x[38], Entry: number(x[22]), Action: x[39], Reason: x[25], Key: x[48],
	}
	if has(56) {
		m.Origin = api.Origin{Stan: number(x[56][:6]), Time: x[56][6:]}
	}
	for _, no := range spares {
		if has(no) {
			m.Other = append(m.Other, api.Element{No: no, Data: []byte(x[no])})
		}
	}
	tags, bad := tlv.Parse([]byte(x[55]))
	m.Tags = tags
	switch {
	case m.Kind < 1:
		e = api.ErrKind
	case !has(11) || !has(12) || !has(32) || has(4) != has(49) || x[22] == "000":
		e = api.ErrField
	case !simple.Time(m.Time), has(56) && !simple.Time(m.Origin.Time),
		has(41) && !behind.MatchString(x[41]), has(42) && !behind.MatchString(x[42]),
		has(48) && !hexed.MatchString(x[48]), has(2) && len(x[2]) < 12:
		e = api.ErrType
	case has(39) && !slices.Contains(known, x[39]):
		e = api.ErrCode
	case has(55) && bad != api.OK:
		e = api.ErrTag
	default:
		e = kinds.Fits(m)
	}
	if e != api.OK {
		return api.Message{}, e
	}
	return m, api.OK
}

// leading is what the chapter tells of the head of b, asked anew.
func leading(b string) (api.Message, bool) {
	f, e := there(b)
	_, is := f.data[11]
	if e != api.OK || !is || !simple.Time(f.data[12]) || f.data[32] == "" {
		return api.Message{}, false
	}
	return api.Message{Stan: number(f.data[11]), Time: f.data[12], Acquirer: f.data[32]}, true
}

// form is what a text of a message may be, and what it is that is asked.
type form struct {
	of   string
	text func(m *api.Message) *string
	may  *regexp.Regexp
}

// forms are those of all texts but times and actions; "" where one may be left out.
var forms = []form{
	{"Acquirer", func(m *api.Message) *string { return &m.Acquirer }, regexp.MustCompile(`\A\d{1,11}\z`)},
	{"Pan", func(m *api.Message) *string { return &m.Pan }, regexp.MustCompile(`\A(\d{12,19})?\z`)},
	{"Currency", func(m *api.Message) *string { return &m.Currency }, regexp.MustCompile(`\A(\d{3})?\z`)},
	{"Rrn", func(m *api.Message) *string { return &m.Rrn }, regexp.MustCompile(`\A([0-9A-Za-z]{12})?\z`)},
	{"Merchant", func(m *api.Message) *string { return &m.Merchant }, regexp.MustCompile(`\A([!-~]([ -~]{0,13}[!-~])?)?\z`)},
	{"Terminal", func(m *api.Message) *string { return &m.Terminal }, regexp.MustCompile(`\A([!-~]([ -~]{0,6}[!-~])?)?\z`)},
	{"Approval", func(m *api.Message) *string { return &m.Approval }, regexp.MustCompile(`\A([0-9A-Za-z]{6})?\z`)},
	{"Reason", func(m *api.Message) *string { return &m.Reason }, regexp.MustCompile(`\A(\d{4})?\z`)},
	{"Key", func(m *api.Message) *string { return &m.Key }, regexp.MustCompile(`\A([0-9A-F]{8})?\z`)},
}

// longest is how long the data of a spare element may be.
func longest(no int) int {
	switch no {
	case 43:
		return 40
	case 102, 103:
		return 28
	case 120:
		return 999
	}
	return 100
}

// rises tells whether all are spare elements that may be, rising.
func rises(all []api.Element) bool {
	last := 0
	for _, x := range all {
		odd := strings.ContainsFunc(string(x.Data), func(c rune) bool { return c < ' ' || c > '~' })
		if !slices.Contains(spares, x.No) || x.No <= last || len(x.Data) < 1 || len(x.Data) > longest(x.No) || odd && x.No != 120 {
			return false
		}
		last = x.No
	}
	return true
}

// lets tells whether all of m may stand in a frame.
func lets(m api.Message) bool {
	for _, x := range forms {
		if !x.may.MatchString(*x.text(&m)) {
			return false
		}
	}
	chip, bad := tlv.Write(m.Tags)
	return m.Stan >= 0 && m.Stan <= 999_999 && m.Entry >= 0 && m.Entry <= 999 && m.Origin.Stan >= 0 && m.Origin.Stan <= 999_999 &&
		m.Amount <= 999_999_999_999 && simple.Time(m.Time) && (m.Origin.Time == "" || simple.Time(m.Origin.Time)) &&
		(m.Action == "" || slices.Contains(known, m.Action)) && bad == api.OK && len(chip) <= 255 && rises(m.Other)
}

// composed is the frame of a message that may stand in one.
func composed(m api.Message) frame {
	x := map[int]string{
		2: m.Pan, 11: fmt.Sprintf("%06d", m.Stan), 12: m.Time, 25: m.Reason, 32: m.Acquirer, 37: m.Rrn, 38: m.Approval,
		39: m.Action, 48: m.Key, 49: m.Currency,
	}
	if m.Currency != "" {
		x[4] = fmt.Sprintf("%012d", m.Amount)
	}
	if m.Entry != 0 {
		x[22] = fmt.Sprintf("%03d", m.Entry)
	}
	if m.Terminal != "" {
		x[41] = fmt.Sprintf("%-8s", m.Terminal)
	}
	if m.Merchant != "" {
		x[42] = fmt.Sprintf("%-15s", m.Merchant)
	}
	if m.Origin.Time != "" {
		x[56] = fmt.Sprintf("%06d%s", m.Origin.Stan, m.Origin.Time)
	}
	chip, _ := tlv.Write(m.Tags)
	x[55] = string(chip)
	for _, y := range m.Other {
		x[y.No] = string(y.Data)
	}
	maps.DeleteFunc(x, func(_ int, s string) bool { return s == "" })
	return frame{mtis[m.Kind], x}
}

// encoded is what the chapter tells of m, asked anew.
func encoded(m api.Message) (string, api.Errno) {
	if e := kinds.Fits(m); e != api.OK {
		return "", e
	}
	switch {
	case m.Note != "" || len(m.Extra) > 0:
		return "", api.ErrField
	case !lets(m):
		return "", api.ErrArg
	}
	return composed(m).String(), api.OK
}

// shown is all that a message has; no list and one of none look the same.
func shown(m api.Message) string {
	return fmt.Sprintf("%x", m)
}

// decodes fails unless Decode tells want, or the error, of b.
func decodes(t *testing.T, b string, want api.Message, fault api.Errno) {
	t.Helper()
	if m, e := fields.Decode([]byte(b)); e != fault || shown(m) != shown(want) {
		t.Fatalf("Decode(%q): %+v, error %d; want %+v, error %d", b, m, e, want, fault)
	}
}

// refuses fails unless Decode tells that error of f.
func refuses(t *testing.T, f frame, fault api.Errno) {
	t.Helper()
	decodes(t, f.String(), api.Message{}, fault)
	if _, e := decoded(f.String()); e != fault {
		t.Fatalf("the chapter is told as error %d of %q; want %d", e, f.String(), fault)
	}
}

// encodes fails unless Encode tells want, or the error, of m.
func encodes(t *testing.T, m api.Message, want string, fault api.Errno) {
	t.Helper()
	if b, e := fields.Encode(m); e != fault || string(b) != want {
		t.Fatalf("Encode(%+v): %q, error %d; want %q, error %d", m, b, e, want, fault)
	}
}

// heads fails unless Head tells want of b, or false.
func heads(t *testing.T, b string, want api.Message, ok bool) {
	t.Helper()
	if m, is := fields.Head([]byte(b)); is != ok || shown(m) != shown(want) {
		t.Fatalf("Head(%q): %+v, %v; want %+v, %v", b, m, is, want, ok)
	}
}

// both fails unless m is encoded as f, and that decoded as m, and its head told.
func both(t *testing.T, m api.Message, f frame) {
	t.Helper()
	b := f.String()
	encodes(t, m, b, api.OK)
	decodes(t, b, m, api.OK)
	heads(t, b, api.Message{Stan: m.Stan, Time: m.Time, Acquirer: m.Acquirer}, true)
}

// asked holds Decode and Head of b against the chapter asked anew; what is told is encoded as it stood there.
func asked(t *testing.T, b string) api.Errno {
	t.Helper()
	m, e := decoded(b)
	decodes(t, b, m, e)
	h, is := leading(b)
	heads(t, b, h, is)
	if e == api.OK {
		encodes(t, m, b, api.OK)
	}
	return e
}

// held holds Encode of m against the chapter asked anew; what is told is decoded.
func held(t *testing.T, m api.Message) api.Errno {
	t.Helper()
	want, e := encoded(m)
	encodes(t, m, want, e)
	if e == api.OK {
		decodes(t, want, m, api.OK)
	}
	return e
}

func TestTheChaptersExample(t *testing.T) {
	decodes(t, "", api.Message{}, api.ErrShort)
	if m, e := fields.Decode(nil); e != api.ErrShort || shown(m) != shown(api.Message{}) {
		t.Errorf("Decode(nil): %+v, error %d", m, e)
	}
	heads(t, "", api.Message{}, false)
}

func TestFramesWrittenOutByHand(t *testing.T) {
	const (
		who  = "000007" + when
		card = "164111111111111111"
	)
	for _, x := range []struct {
		b string
		m api.Message
	}{
		{
			"2800\x00\x30\x00\x01\x00\x00\x00\x00" + who + "03123",
			api.Message{Kind: api.DiagAsk, Stan: 7, Time: when, Acquirer: "123"},
		},
		{
			"2810\x00\x30\x00\x01\x02\x00\x00\x00" + "000000" + when + "111234567890" + "1800",
			api.Message{Kind: api.DiagTell, Stan: 0, Time: when, Acquirer: "12345678901", Action: "800"},
		},
		{
			"2520\x10\x30\x00\x01\x00\x00\x80\x00" + "000000000000" + who + "03123" + "000",
			api.Message{Kind: api.RecAsk, Stan: 7, Time: when, Acquirer: "123", Currency: "000"},
		},
		{
			"2530\x10\x30\x00\x01\x02\x00\x80\x00" + "999999999999" + "999999" + when + "010" + "500" + "978",
			api.Message{Kind: api.RecTell, Stan: 999_999, Time: when, Acquirer: "0", Action: "500", Currency: "978", Amount: 999_999_999_999},
		},
		{
			"2100\x50\x30\x04\x01\x08\xc1\x82\x00" + card + "000000001205" + who + "051" + "03123" + "RRN000000001" + "T1      " + "Shop           " + "008" + "0000ABCD" + "978" + "003\x95\x01\x07",
			api.Message{Kind: api.AuthAsk, Stan: 7, Time: when, Acquirer: "123", Pan: "4111111111111111", Amount: 1205, Currency: "978", Entry: 51, Rrn: "RRN000000001", Terminal: "T1", Merchant: "Shop", Key: "0000ABCD", Tags: []api.Tag{{Tag: 0x95, Data: []byte{7}}}},
		},
		{
			"2110\x00\x30\x00\x01\x06\x00\x00\x02" + who + "03123" + "A1b2C3" + "000" + "001 ",
			api.Message{Kind: api.AuthTell, Stan: 7, Time: when, Acquirer: "123", Approval: "A1b2C3", Action: "000", Other: []api.Element{{No: 63, Data: []byte(" ")}}},
		},
		{
			"2420\xd0\x30\x00\x81\x00\x00\x81\x00\x00\x00\x00\x00\x04\x00\x01\x00" + card + "000000000001" + who + "4021" + "03123" + "978" + "000009" + before + "06DE00 1" + "0002\x00\xff",
			api.Message{Kind: api.RevAsk, Stan: 7, Time: when, Acquirer: "123", Pan: "4111111111111111", Amount: 1, Currency: "978", Reason: "4021", Origin: api.Origin{Stan: 9, Time: before}, Other: []api.Element{{No: 102, Data: []byte("DE00 1")}, {No: 120, Data: []byte{0, 255}}}},
		},
		{
			"2644\x00\x30\x00\x81\x00\x00\x00\x00" + who + "0904" + "03123",
			api.Message{Kind: api.Reject, Stan: 7, Time: when, Acquirer: "123", Reason: "0904"},
		},
	} {
		if b, e := encoded(x.m); b != x.b || e != api.OK {
			t.Errorf("the chapter is told as %q, error %d; want %q", b, e, x.b)
		}
		encodes(t, x.m, x.b, api.OK)
		decodes(t, x.b, x.m, api.OK)
		heads(t, x.b, api.Message{Stan: x.m.Stan, Time: x.m.Time, Acquirer: x.m.Acquirer}, true)
	}
}

func TestAllThatEachKindMayHave(t *testing.T) {
	for kind := 1; kind <= 11; kind++ {
		f, m := rich(kind)
		both(t, m, f)
		if composed(m).String() != f.String() {
			t.Errorf("the tests' own frame of kind %d is another: %q", kind, composed(m).String())
		}
		most := []int{0, 8, 7, 10, 2, 8, 2, 2, 3, 0, 1, 1}[kind]
		if n := len(f.data) - 3 - 9; n != most {
			t.Errorf("kind %d has %d fields; want %d", kind, n, most)
		}
	}
}

func TestAllSetsOfWhatAMessageMayHave(t *testing.T) {
	right := 0
	for set := range 1 << parted {
		for kind := 1; kind <= 11; kind++ {
			f, m := of(kind, set)
			if sum(set) && kinds.Fits(m) == api.OK {
				right++
				both(t, m, f)
				continue
			}
			// Of those that are wrong but some are asked, for time's sake.
			if (set+kind)%3 > 0 {
				continue
			}
			refuses(t, f, api.ErrField)
			if kinds.Fits(m) != api.OK {
				encodes(t, m, "", api.ErrField)
			}
		}
	}
	if right != 8+32+32+2+8+2+1+2+1+1+1 {
		t.Errorf("%d are right", right)
	}
}

func TestAllSetsOfWhatPlaysNoPartInKinds(t *testing.T) {
	for kind := 1; kind <= 11; kind++ {
		for set := range 512 {
			f, m := of(kind, mosts()[kind]&(1<<parted-1)|set<<parted)
			both(t, m, f)
		}
	}
}

// value is a text of a message, the kind that it is tried in, and which it may be, and may not.
type value struct {
	of           string
	kind         int
	text         func(m *api.Message) *string
	right, wrong []string
}

// moments are times, and what are none.
func moments() (right, wrong []string) {
	return []string{when, "00010101000000", "99991231235959", "20240229120000", "20000229000000", "20260131000000", "20260430235959"},
		[]string{
			"x", "0", "2026010203040", "202601020304056", "2026-01-02T03:04:05", "2026010203040x", " 0260102030405", "20260102030405 ", "00000101000000",
			"20260001000000", "20261301000000", "20260100000000", "20260132000000", "20260431000000", "20260229000000", "19000229000000", "20240230000000",
			"20260102240000", "20260102036000", "20260102030060", "20260102030\xff05", "00000000000000", "99999999999999",
		}
}

// values are those of all texts.
func values() []value {
	times, never := moments()
	long := func(n int) string { return strings.Repeat("7", n) }
	var wide []string
	for n := range 15 {
		wide = append(wide, "M"+strings.Repeat(" ", max(0, n-1))+long(min(n, 1)))
	}
	return []value{
		{"Time", api.DiagAsk, func(m *api.Message) *string { return &m.Time }, times, append(never, "")},
		{"Origin", api.RevAsk, func(m *api.Message) *string { return &m.Origin.Time }, times, never},
		{"Acquirer", api.DiagAsk, func(m *api.Message) *string { return &m.Acquirer }, []string{"0", "1", "00", "0123456789", long(11)}, []string{"", long(12), long(100), "x", "1x", " 1", "1 ", "-1", "+1", "1\x00", "\xff", "\u0661"}},
		{"Pan", api.AuthAsk, func(m *api.Message) *string { return &m.Pan }, []string{long(12), long(13), long(18), long(19), strings.Repeat("0", 12)}, []string{"1", long(10), long(11), long(20), long(112), "40000000000x", "4000000000000000x", " " + long(12), long(12) + " ", "-" + long(12), "\xff" + long(12)}},
		{"Currency", api.RecAsk, func(m *api.Message) *string { return &m.Currency }, []string{"000", "001", "978", "999"}, []string{"0", "97", "9780", "EUR", "97x", " 97", "97 ", "\xff\xff\xff"}},
		{"Rrn", api.RevTell, func(m *api.Message) *string { return &m.Rrn }, []string{long(12), "ABCdefXYZxyz", "0aZ9zA00aZ9z"}, []string{"1", long(11), long(13), "12345678901-", "12345678901 ", " 12345678901", "1234567890é", "12345678901\x00"}},
		{"Approval", api.AuthTell, func(m *api.Message) *string { return &m.Approval }, []string{"000000", "aZ09zA"}, []string{"1", "12345", "1234567", "12345-", "12345 ", " 12345", "1234é"}},
		{"Reason", api.Reject, func(m *api.Message) *string { return &m.Reason }, []string{"0000", "4021", "9999"}, []string{"0", "402", "40211", "402x", "402 ", " 402", "-402"}},
		{"Action", api.DiagTell, func(m *api.Message) *string { return &m.Action }, known, []string{"0", "00", "0000", "003", "117 ", " 117", "999", "APPR", "11x", "\xff", "103", "801"}},
		{"Key", api.DiagTell, func(m *api.Message) *string { return &m.Key }, []string{"", "00000000", "FFFFFFFF", "01234567", "89ABCDEF"}, []string{"0", "00", "000000", "0000000", "000000000", "0000000000", "0000abcd", "0000ABCG", "0000000 ", " 0000000", "000000:0", "000000@0", "0000000\x00", "\xff\xff\xff\xff\xff\xff\xff\xff"}},
		{"Terminal", api.AuthAsk, func(m *api.Message) *string { return &m.Terminal }, append([]string{"~~~~~~~~", "!", "a b c  d", long(7), long(8)}, wide[:8]...), []string{" ", "        ", " a", "a ", "  a  ", long(9), long(7) + " ", long(8) + " ", "é", "éééééééé", strings.Repeat("€", 8), "a\tb", "\x1f", "\x7f", "\x00", "a\nb", "\xff", "a\u00a0b"}},
		{"Merchant", api.AuthAsk, func(m *api.Message) *string { return &m.Merchant }, append([]string{strings.Repeat("~", 15), "!", "a b c  d", "Cafe & <Co> \"'", long(15)}, wide...), []string{" ", strings.Repeat(" ", 15), " a", "a ", "  a  ", strings.Repeat("é", 15), long(16), long(14) + " ", long(15) + " ", long(35), "Café", "a\tb", "\x1f", "\x7f", "\x00", "a\r\nb", "\xff"}},
	}
}

func TestEdgesOfEachText(t *testing.T) {
	for _, x := range values() {
		_, m := rich(x.kind)
		for _, s := range x.right {
			*x.text(&m) = s
			both(t, m, composed(m))
		}
		for _, s := range x.wrong {
			*x.text(&m) = s
			encodes(t, m, "", api.ErrArg)
			if _, e := encoded(m); e != api.ErrArg {
				t.Errorf("the chapter is told as error %d of %s %q", e, x.of, s)
			}
		}
	}
}

func TestEachByteOfATextInEncode(t *testing.T) {
	found := map[api.Errno]int{}
	for _, x := range values() {
		for _, right := range x.right {
			if right == "" {
				continue
			}
			_, m := rich(x.kind)
			for _, at := range []int{0, len(right) / 2, len(right) - 1} {
				for c := range 256 {
					b := []byte(right)
					b[at] = byte(c)
					*x.text(&m) = string(b)
					found[held(t, m)]++
				}
			}
		}
	}
	if found[api.OK] < 5_000 || found[api.ErrArg] < 5_000 {
		t.Errorf("%v", found)
	}
}

func TestEdgesOfNumbers(t *testing.T) {
	far := []int{-1, -7, -999_999, -1_000_000, math.MinInt, math.MinInt + 7, math.MaxInt, math.MaxInt32, math.MinInt32, 1 << 32, 1<<32 + 7, 1 << 62, 1<<24 + 7, 256_000_000}
	for _, x := range []struct {
		kind  int
		of    func(m *api.Message) *int
		right []int
		wrong []int
	}{
		{api.DiagAsk, func(m *api.Message) *int { return &m.Stan }, []int{0, 1, 9, 10, 99_999, 100_000, 999_998, 999_999}, append(far, 1_000_000, 1_000_001, 9_999_999)},
		{api.RevAsk, func(m *api.Message) *int { return &m.Origin.Stan }, []int{0, 1, 9, 10, 99_999, 100_000, 999_998, 999_999}, append(far, 1_000_000, 1_000_001, 9_999_999)},
		{api.AuthAsk, func(m *api.Message) *int { return &m.Entry }, []int{0, 1, 9, 10, 51, 99, 100, 998, 999}, append(far, 1_000, 1_001, 9_999, 999_999, 1<<16+7)},
	} {
		_, m := rich(x.kind)
		for _, n := range x.right {
			*x.of(&m) = n
			both(t, m, composed(m))
		}
		for _, n := range x.wrong {
			*x.of(&m) = n
			encodes(t, m, "", api.ErrArg)
		}
	}
	_, m := rich(api.RecAsk)
	for _, v := range []uint64{0, 1, 99, 100, 1<<32 - 1, 1 << 32, 99_999_999_999, 100_000_000_000, 999_999_999_998, 999_999_999_999} {
		m.Amount = v
		both(t, m, composed(m))
	}
	for _, v := range []uint64{1_000_000_000_000, 1_000_000_000_001, 9_999_999_999_999, 1 << 62, 1 << 63, 1<<63 + 1, math.MaxUint64} {
		m.Amount = v
		encodes(t, m, "", api.ErrArg)
	}
}

// chip is so many tags, of data of so many bytes each.
func chip(tags, bytes int) []api.Tag {
	var out []api.Tag
	for i := range tags {
		out = append(out, api.Tag{Tag: i + 1, Data: []byte(strings.Repeat("\xa5", bytes))})
	}
	return out
}

func TestEdgesOfTags(t *testing.T) {
	_, m := rich(api.AuthAsk)
	for n := range 21 {
		for size := range 14 {
			m.Tags = chip(n, size)
			want := api.OK
			if n*(size+2) > 255 {
				want = api.ErrArg
			}
			if e := held(t, m); e != want {
				t.Fatalf("%d tags of %d bytes: error %d; want %d", n, size, e, want)
			}
		}
	}
	for size := 120; size < 300; size++ {
		m.Tags = chip(1, size)
		want := api.OK
		if size > 252 {
			want = api.ErrArg
		}
		if e := held(t, m); e != want {
			t.Fatalf("a tag of %d bytes: error %d; want %d", size, e, want)
		}
	}
	for _, l := range [][]api.Tag{chip(21, 0), chip(100, 0), chip(1, 256), chip(1, 100_000), {{Tag: 0}}, {{Tag: 255}}, {{Tag: -1}}, {{Tag: 31}}, {{Tag: 1}, {Tag: 1}}, {{Tag: 1}, {Tag: 2}, {Tag: 1}}, {{Tag: 0x9f80}}, {{Tag: 1 << 16}}, {{Tag: math.MaxInt}}} {
		m.Tags = l
		encodes(t, m, "", api.ErrArg)
	}
	m.Tags = []api.Tag{}
	both(t, m, composed(m))
}

func TestEdgesOfOthers(t *testing.T) {
	_, m := rich(api.DiagAsk)
	spare := func(no, n int) api.Element {
		return api.Element{No: no, Data: []byte(strings.Repeat("s", n))}
	}
	for no := -3; no < 140; no++ {
		for _, n := range []int{0, 1, 27, 28, 29, 39, 40, 41, 99, 100, 101, 998, 999, 1000} {
			m.Other = []api.Element{spare(no, n)}
			want := api.OK
			if !slices.Contains(spares, no) || n == 0 || n > longest(no) {
				want = api.ErrArg
			}
			if e := held(t, m); e != want {
				t.Fatalf("%d of %d bytes: error %d; want %d", no, n, e, want)
			}
		}
	}
	// Each byte; which may be hangs on the element.
	for _, no := range spares {
		for c := range 256 {
			m.Other = []api.Element{{No: no, Data: []byte{byte(c)}}}
			want := api.OK
			if (c < 32 || c > 126) && no != 120 {
				want = api.ErrArg
			}
			if e := held(t, m); e != want {
				t.Fatalf("%d of the byte %d: error %d; want %d", no, c, e, want)
			}
		}
	}
	// By two: but those that rise may be.
	for _, a := range spares {
		for _, b := range spares {
			m.Other = []api.Element{spare(a, 2), spare(b, 3)}
			want := api.OK
			if b <= a {
				want = api.ErrArg
			}
			if e := held(t, m); e != want {
				t.Fatalf("%d ahead of %d: error %d; want %d", a, b, e, want)
			}
		}
	}
	// A field's own element is no other one, whether the field is there or not.
	for _, x := range append(samples()[:parted], sample{no: 11, data: "000007"}, sample{no: 12, data: when}, sample{no: 32, data: "1"}, sample{no: 48, data: "0000ABCD"}) {
		for kind := 1; kind <= 11; kind++ {
			_, m := rich(kind)
			m.Other = []api.Element{{No: x.no, Data: []byte(x.data)}}
			encodes(t, m, "", api.ErrArg)
			m.Key = ""
			encodes(t, m, "", api.ErrArg)
			m.Other = append(m.Other, spare(120, 1))
			encodes(t, m, "", api.ErrArg)
		}
	}
	for _, n := range []int{9, 20, 1_000, 100_000} {
		m.Other = make([]api.Element, n)
		encodes(t, m, "", api.ErrArg)
		m.Other = slices.Repeat([]api.Element{spare(60, 1)}, n)
		encodes(t, m, "", api.ErrArg)
	}
	m.Other = []api.Element{}
	both(t, m, composed(m))
}

func TestNotesAndPairsCannotBeSaid(t *testing.T) {
	for kind := 1; kind <= 11; kind++ {
		f, m := rich(kind)
		for _, note := range []string{"x", " ", "\xff", strings.Repeat("n", 1_000)} {
			m.Note = note
			encodes(t, m, "", api.ErrField)
		}
		m.Note = ""
		for n := 1; n <= 9; n++ {
			m.Extra = make([]api.Pair, n)
			encodes(t, m, "", api.ErrField)
			m.Note = "x"
			encodes(t, m, "", api.ErrField)
			m.Note = ""
		}
		m.Extra = []api.Pair{}
		both(t, m, f)
	}
}

func TestEncodeOfEveryKindThatIsNone(t *testing.T) {
	for _, kind := range []int{0, -1, 12, 13, 100, 256, 257, 1<<32 + 1, math.MinInt, math.MaxInt} {
		_, m := rich(api.AuthAsk)
		m.Kind = kind
		encodes(t, m, "", api.ErrKind)
		encodes(t, api.Message{Kind: kind}, "", api.ErrKind)
	}
	encodes(t, api.Message{}, "", api.ErrKind)
	encodes(t, api.Message{Kind: api.DiagAsk}, "", api.ErrArg)
	encodes(t, api.Message{Kind: api.AuthAsk}, "", api.ErrField)
}

func TestWhichErrorCountsInEncode(t *testing.T) {
	turns := []struct {
		turn func(m *api.Message)
		e    api.Errno
	}{
		{func(m *api.Message) { m.Kind = 12 }, api.ErrKind},
		{func(m *api.Message) { m.Tags = chip(1, 1) }, api.ErrField},
		{func(m *api.Message) { m.Currency, m.Amount = "", 1 }, api.ErrField},
		{func(m *api.Message) { m.Pan = "" }, api.ErrField},
		{func(m *api.Message) { m.Note = "x" }, api.ErrField},
		{func(m *api.Message) { m.Extra = make([]api.Pair, 1) }, api.ErrField},
		{func(m *api.Message) { m.Stan = -1 }, api.ErrArg},
		{func(m *api.Message) { m.Entry = 1_000 }, api.ErrArg},
		{func(m *api.Message) { m.Origin.Stan = 1_000_000 }, api.ErrArg},
		{func(m *api.Message) { m.Amount = 1_000_000_000_000 }, api.ErrArg},
		{func(m *api.Message) { m.Acquirer = "" }, api.ErrArg},
		{func(m *api.Message) { m.Time = "" }, api.ErrArg},
		{func(m *api.Message) { m.Origin.Time = "x" }, api.ErrArg},
		{func(m *api.Message) { m.Action = "003" }, api.ErrArg},
		{func(m *api.Message) { m.Pan = "1" }, api.ErrArg},
		{func(m *api.Message) { m.Key = "x" }, api.ErrArg},
		{func(m *api.Message) { m.Terminal = " " }, api.ErrArg},
		{func(m *api.Message) { m.Merchant = " " }, api.ErrArg},
		{func(m *api.Message) { m.Other = make([]api.Element, 9) }, api.ErrArg},
		{func(m *api.Message) { m.Other = []api.Element{{No: 2}} }, api.ErrArg},
		{func(m *api.Message) { m.Rrn = "x" }, api.ErrArg},
		{func(m *api.Message) { m.Other = []api.Element{{No: 60}} }, api.ErrArg},
	}
	for i, x := range turns {
		for _, y := range turns[i:] {
			_, m := rich(api.CompAsk)
			// The later one first: what it turns may be turned again by the other one.
			y.turn(&m)
			x.turn(&m)
			encodes(t, m, "", x.e)
			if _, e := encoded(m); e != x.e {
				t.Fatalf("fault %d: the chapter is told as error %d", i, e)
			}
		}
	}
}

// gone stands for the data of an element that is not there.
const gone = "gone"

// bad is data of an element for which Decode refuses a frame; the errors of lower ranks count.
type bad struct {
	rank, no int
	data     string
	e        api.Errno
}

// bads are such, for a frame of kind CompAsk.
func bads() []bad {
	out := []bad{
		{0, 4, "00000000120x", api.ErrType}, {0, 37, "ABCdef12345-", api.ErrType}, {0, 63, "", api.ErrLength}, {0, 60, "\n", api.ErrType},
		{2, 11, gone, api.ErrField}, {2, 12, gone, api.ErrField}, {2, 32, gone, api.ErrField}, {2, 4, gone, api.ErrField}, {2, 49, gone, api.ErrField}, {2, 22, "000", api.ErrField},
		{3, 41, "        ", api.ErrType}, {3, 41, " T      ", api.ErrType}, {3, 41, "       T", api.ErrType},
		{3, 42, "               ", api.ErrType}, {3, 42, " M             ", api.ErrType}, {3, 42, "              M", api.ErrType},
		{3, 48, "0000abcd", api.ErrType}, {3, 48, "0000ABC", api.ErrType}, {3, 48, "0", api.ErrType}, {3, 48, "00", api.ErrType}, {3, 48, "000000", api.ErrType}, {3, 48, "0000ABCG", api.ErrType}, {3, 48, "000000  ", api.ErrType},
		{3, 2, "1", api.ErrType}, {3, 2, "40000000000", api.ErrType},
		{4, 39, "003", api.ErrCode}, {4, 39, "999", api.ErrCode},
		{5, 55, "\x00", api.ErrTag}, {5, 55, "\xff\x00", api.ErrTag}, {5, 55, "\x95", api.ErrTag}, {5, 55, "\x95\x01", api.ErrTag}, {5, 55, "\x95\x80", api.ErrTag}, {5, 55, "\x95\x00\x95\x00", api.ErrTag}, {5, 55, many(21), api.ErrTag},
		{6, 55, "\x95\x00", api.ErrField}, {6, 55, many(20), api.ErrField}, {6, 25, "4021", api.ErrField}, {6, 41, gone, api.ErrField}, {6, 2, gone, api.ErrField},
	}
	_, never := moments()
	for _, s := range never {
		if len(s) == 14 && strings.Trim(s, "0123456789") == "" {
			out = append(out, bad{3, 12, s, api.ErrType}, bad{3, 56, "000001" + s, api.ErrType})
		}
	}
	return out
}

// many are so many tags, of no data.
func many(n int) string {
	b, _ := tlv.Write(chip(min(n, 20), 0))
	return string(b) + strings.Repeat("\x95\x00", n-min(n, 20))
}

// turned is f with that data.
func (x bad) turned(f frame) frame {
	if x.data == gone {
		return f.without(x.no)
	}
	return f.with(x.no, x.data)
}

func TestWhichErrorCountsInDecode(t *testing.T) {
	right, m := rich(api.CompAsk)
	both(t, m, right)
	for _, x := range bads() {
		f := x.turned(right)
		refuses(t, f, x.e)
		want := api.ErrKind
		if x.rank == 0 {
			want = x.e
		}
		refuses(t, f.named("2101"), want)
		for _, y := range bads() {
			if x.no != y.no && (x.rank < y.rank || x.rank == y.rank && x.rank > 0) {
				refuses(t, y.turned(f), x.e)
			}
		}
		// What is left behind is met ahead of all that is parsed as it stands.
		if x.rank > 0 {
			decodes(t, f.String()+"x", api.Message{}, api.ErrLength)
			decodes(t, f.named("x220").String(), api.Message{}, api.ErrDigit)
		}
	}
}

func TestDecodeOfEveryMti(t *testing.T) {
	f, _ := rich(api.DiagAsk)
	for n := range 10_000 {
		mti := fmt.Sprintf("%04d", n)
		if !slices.Contains(mtis, mti) {
			decodes(t, mti+f.String()[4:], api.Message{}, api.ErrKind)
		}
	}
	for kind := 1; kind <= 11; kind++ {
		f, _ := rich(kind)
		for _, mti := range mtis[1:] {
			asked(t, f.named(mti).String())
		}
		// None behind it: still there is no such kind.
		refuses(t, frame{"2101", nil}, api.ErrKind)
		refuses(t, frame{mtis[kind], nil}, api.ErrField)
	}
}

func TestEachElementOfEachKindTurned(t *testing.T) {
	found := map[api.Errno]int{}
	for kind := 1; kind <= 11; kind++ {
		f, _ := rich(kind)
		for no := range f.data {
			found[asked(t, f.without(no).String())]++
			for at := range min(len(f.data[no]), 20) {
				for _, c := range "\x00 0129AFaz~\x7f\xff" {
					b := []byte(f.data[no])
					b[at] = byte(c)
					found[asked(t, f.with(no, string(b)).String())]++
				}
			}
			for n := range len(f.data[no]) {
				found[asked(t, f.with(no, f.data[no][:n]).String())]++
			}
			found[asked(t, f.with(no, f.data[no]+"0").String())]++
		}
		for _, x := range samples() {
			found[asked(t, f.with(x.no, x.data).String())]++
		}
		for _, x := range bads() {
			found[asked(t, x.turned(f).String())]++
		}
	}
	for _, e := range []api.Errno{api.OK, api.ErrLength, api.ErrType, api.ErrField, api.ErrCode, api.ErrTag} {
		if found[e] < 5 {
			t.Errorf("error %d came %d times alone", e, found[e])
		}
	}
}

func TestNamesWithBlanksBehind(t *testing.T) {
	f, m := rich(api.AuthAsk)
	for no, width := range map[int]int{41: 8, 42: 15} {
		for n := range width + 1 {
			for _, s := range []string{strings.Repeat("x", n), strings.Repeat("x ", n/2), "x" + strings.Repeat(" ", n), strings.Repeat(" ", n) + "x"} {
				if len(s) > width {
					continue
				}
				padded := fmt.Sprintf("%-*s", width, s)
				want := api.OK
				if padded[0] == ' ' {
					want = api.ErrType
				}
				if e := asked(t, f.with(no, padded).String()); e != want {
					t.Fatalf("%d as %q: error %d; want %d", no, padded, e, want)
				}
			}
		}
		for c := range 256 {
			asked(t, f.with(no, string(append([]byte{byte(c)}, f.data[no][1:]...))).String())
			asked(t, f.with(no, f.data[no][:width-1]+string([]byte{byte(c)})).String())
		}
	}
	m.Terminal, m.Merchant = "a  b", "c       d"
	both(t, m, f.with(41, "a  b    ").with(42, "c       d      "))
}

func TestHead(t *testing.T) {
	want := api.Message{Stan: 12, Time: when, Acquirer: "00099"}
	base := frame{"0000", map[int]string{11: "000012", 12: when, 32: "00099"}}
	for kind := range mtis {
		full, _ := rich(max(kind, 1))
		for _, f := range []frame{base, full.with(11, "000012").with(32, "00099"), base.with(2, "1"), base.with(39, "999"), base.with(41, "        "), base.with(48, "x"), base.with(55, "\x00"), base.with(56, "00000100000000000000"), base.with(4, "000000000001"), base.with(49, "978"), base.with(22, "000"), base.with(120, "x")} {
			for _, mti := range []string{"0000", "9999", "2101", mtis[max(kind, 1)]} {
				b := f.named(mti).String()
				heads(t, b, want, true)
				heads(t, f.named(mti).without(11).String(), api.Message{}, false)
				heads(t, f.named(mti).without(12).String(), api.Message{}, false)
				heads(t, f.named(mti).without(32).String(), api.Message{}, false)
				heads(t, f.named(mti).with(12, "20260229000000").String(), api.Message{}, false)
				heads(t, b+"x", api.Message{}, false)
				heads(t, b[:len(b)-1], api.Message{}, false)
				heads(t, "x"+b[1:], api.Message{}, false)
			}
		}
	}
	for _, f := range []frame{base.with(2, ""), base.with(3, "x"), base.with(4, "x"), base.with(22, "0000"), base.with(38, "12345-"), base.with(128, "x"), base.with(120, "")} {
		heads(t, f.String(), api.Message{}, false)
	}
	times, never := moments()
	for _, s := range times {
		heads(t, base.with(12, s).String(), api.Message{Stan: 12, Time: s, Acquirer: "00099"}, true)
	}
	for _, s := range never {
		heads(t, base.with(12, s).String(), api.Message{}, false)
	}
	for _, n := range []int{0, 1, 999_999} {
		heads(t, base.with(11, fmt.Sprintf("%06d", n)).String(), api.Message{Stan: n, Time: when, Acquirer: "00099"}, true)
	}
	for _, s := range []string{"0", "1", "12345678901", "00000000000"} {
		heads(t, base.with(32, s).String(), api.Message{Stan: 12, Time: when, Acquirer: s}, true)
	}
}

func TestEachCutOfAFrame(t *testing.T) {
	for kind := 1; kind <= 11; kind++ {
		f, _ := rich(kind)
		b := f.String()
		for n := range len(b) {
			decodes(t, b[:n], api.Message{}, api.ErrShort)
			heads(t, b[:n], api.Message{}, false)
			// What is missing stands in the room behind, where it plays no part.
			if _, e := fields.Decode([]byte(b)[:n]); e != api.ErrShort {
				t.Fatalf("the first %d bytes: error %d", n, e)
			}
		}
		for _, more := range []string{"x", "\x00", b, strings.Repeat(" ", api.MaxFrame-len(b))} {
			decodes(t, b+more, api.Message{}, api.ErrLength)
			heads(t, b+more, api.Message{}, false)
		}
		decodes(t, b+strings.Repeat(" ", api.MaxFrame-len(b)+1), api.Message{}, api.ErrBig)
	}
}

// chooser makes messages by chance.
type chooser struct{ *rand.Rand }

// one is one of l.
func (r chooser) one(l []string) string {
	return l[r.Intn(len(l))]
}

// bytes are from low to top of those.
func (r chooser) bytes(of string, low, top int) string {
	out := make([]byte, low+r.Intn(top-low+1))
	for i := range out {
		out[i] = of[r.Intn(len(of))]
	}
	return string(out)
}

// message is one that may be encoded, of whatever kind: of what it may have, but need not, some is left out.
func (r chooser) message() api.Message {
	kind := 1 + r.Intn(11)
	set := mosts()[kind] &^ (r.Intn(1<<parted) & r.Intn(1<<parted))
	if !sum(set) {
		set |= 1<<1 | 1<<9
	}
	_, m := of(kind, set)
	if kinds.Fits(m) != api.OK {
		_, m = rich(kind)
	}
	m.Stan = r.Intn(1_000_000)
	for _, x := range values() {
		if at := x.text(&m); *at != "" {
			*at = r.one(x.right)
		}
	}
	if m.Currency != "" {
		m.Amount = uint64(r.Int63n(1_000_000_000_000)) >> r.Intn(40)
	}
	if m.Entry > 0 {
		m.Entry = r.Intn(1_000)
	}
	if m.Origin.Time != "" {
		m.Origin.Stan = r.Intn(1_000_000)
	}
	if len(m.Tags) > 0 {
		m.Tags = chip(r.Intn(21), r.Intn(11))
	}
	m.Other = nil
	for _, no := range spares {
		if r.Intn(3) == 0 {
			m.Other = append(m.Other, api.Element{No: no, Data: []byte(r.bytes("aZ09 ~!", 1, longest(no)))})
		}
	}
	return m
}

// turn turns something of m.
func (r chooser) turn(m *api.Message) {
	odd := []string{"", " ", "x", "0", "\xff", "1 2", "é", "123456", "1234", "000", "0000ABCD", when, "ABCDEF0123456789", "              1"}
	edges := []int{0, -1, 1, 9, 12, 999, 1_000, 999_999, 1_000_000, math.MinInt, math.MaxInt}
	numbers := []*int{&m.Stan, &m.Entry, &m.Origin.Stan, &m.Kind}
	l := values()
	switch n := r.Intn(len(l) + 10); {
	case n < len(l):
		*l[n].text(m) = r.one(append(odd, l[n].wrong...))
	case n < len(l)+4:
		*numbers[n-len(l)] = edges[r.Intn(len(edges))]
	case n == len(l)+4:
		m.Amount = uint64(edges[r.Intn(len(edges))])
	case n == len(l)+5:
		m.Note = r.one(odd)
	case n == len(l)+6:
		m.Extra = make([]api.Pair, r.Intn(3))
	case n == len(l)+7:
		m.Tags = append(m.Tags, api.Tag{Tag: r.Intn(300), Data: []byte(r.bytes("t", 0, 280))})
	default:
		m.Other = append(m.Other, api.Element{No: 2 * r.Intn(65), Data: []byte(r.one(odd))})
		if k := r.Intn(len(m.Other)); r.Intn(3) == 0 {
			m.Other[0], m.Other[k] = m.Other[k], m.Other[0]
		}
	}
}

func TestWhatIsEncodedIsDecoded(t *testing.T) {
	r := chooser{rand.New(rand.NewSource(18))}
	for range 3_000 {
		m := r.message()
		if held(t, m) != api.OK {
			t.Fatalf("%+v: refused", m)
		}
		both(t, m, composed(m))
	}
}

func TestChanceMessagesWithSomeTurned(t *testing.T) {
	r := chooser{rand.New(rand.NewSource(1818))}
	found := map[api.Errno]int{}
	for range 10_000 {
		m := r.message()
		for range 1 + r.Intn(2) {
			r.turn(&m)
		}
		found[held(t, m)]++
	}
	for _, e := range []api.Errno{api.OK, api.ErrKind, api.ErrField, api.ErrArg} {
		if found[e] < 100 {
			t.Errorf("error %d came %d times alone", e, found[e])
		}
	}
}

func TestChanceFramesWithSomeTurned(t *testing.T) {
	r := chooser{rand.New(rand.NewSource(181818))}
	found := map[api.Errno]int{}
	for range 10_000 {
		f := composed(r.message())
		for range 1 + r.Intn(2) {
			l := bads()
			all := slices.Sorted(maps.Keys(f.data))
			no := all[r.Intn(len(all))]
			switch r.Intn(6) {
			case 0:
				f = f.without(no)
			case 1:
				x := samples()[r.Intn(len(samples()))]
				f = f.with(x.no, x.data)
			case 2:
				f = l[r.Intn(len(l))].turned(f)
			case 3:
				f = f.named(mtis[1+r.Intn(11)])
			case 4:
				f = f.with(no, r.bytes("0129 aZ\xff", 1, max(1, len(f.data[no]))))
			case 5:
				b := []byte(f.data[no])
				b[r.Intn(len(b))] ^= 1 << r.Intn(8)
				f = f.with(no, string(b))
			}
		}
		b := []byte(f.String())
		if r.Intn(4) == 0 {
			b[r.Intn(len(b))] ^= 1 << r.Intn(8)
		}
		found[asked(t, string(b))]++
	}
	for _, e := range []api.Errno{api.OK, api.ErrShort, api.ErrDigit, api.ErrElement, api.ErrLength, api.ErrType, api.ErrKind, api.ErrField, api.ErrCode, api.ErrTag} {
		if found[e] < 5 {
			t.Errorf("error %d came %d times alone", e, found[e])
		}
	}
}

func TestChanceBytes(t *testing.T) {
	r := chooser{rand.New(rand.NewSource(8))}
	for range 20_000 {
		b := make([]byte, r.Intn(40))
		r.Read(b)
		asked(t, string(b))
		asked(t, "2800\x00\x30\x00\x01"+string(b))
	}
}

// open is a copy of b with room behind it, in which more stands.
func open(b []byte) []byte {
	return append(slices.Clone(b), "behind"...)[:len(b)]
}

// all is what stands in b, and in the room behind it.
func all(b []byte) string {
	return string(b[:cap(b)])
}

func TestCallsLeaveWhatTheyAreGiven(t *testing.T) {
	f, _ := rich(api.AuthAsk)
	for _, s := range []string{f.String(), f.without(11).String(), f.String() + "x", "x"} {
		b := open([]byte(s))
		was := all(b)
		fields.Decode(b)
		fields.Head(b)
		if all(b) != was {
			t.Errorf("what was given, or what stands behind it, is turned: %q; it was %q", all(b), was)
		}
	}
	_, m := rich(api.AuthAsk)
	for i := range m.Tags {
		m.Tags[i].Data = open(m.Tags[i].Data)
	}
	for i := range m.Other {
		m.Other[i].Data = open(m.Other[i].Data)
	}
	m.Tags = append(m.Tags, api.Tag{Tag: 1}, api.Tag{Tag: 2})[:2]
	m.Extra = append(m.Extra, api.Pair{Key: "behind"})[:0]
	spare := slices.Clone(m.Other)
	for n := range len(spare) + 1 {
		for _, stan := range []int{7, -1} {
			// The others behind the first ones stand in the room behind these; once they do not rise.
			for _, l := range [][]api.Element{slices.Clone(spare), slices.Concat(spare[4:], spare[:4])} {
				m.Other, m.Stan = l[:n], stan
				look := func() string {
					out := fmt.Sprint(m, l, m.Tags[:cap(m.Tags)], m.Extra[:1])
					for _, x := range l {
						out += all(x.Data)
					}
					return out + all(m.Tags[0].Data) + all(m.Tags[1].Data)
				}
				was := look()
				fields.Encode(m)
				if now := look(); now != was {
					t.Fatalf("Encode wrote into what it was given, or behind it: %s; it was %s", now, was)
				}
			}
		}
	}
}

// spoil turns all bytes of b, and of the room behind it.
func spoil(b []byte) {
	room := b[:cap(b)]
	for i := range room {
		room[i] ^= 255
	}
}

func TestAnswersAreNewMemory(t *testing.T) {
	f, want := rich(api.AuthAsk)
	b := []byte(f.String())
	got, _ := fields.Decode(b)
	twin, _ := fields.Decode(b)
	spoil(b)
	if shown(got) != shown(want) {
		t.Fatal("what Decode tells is what it was given")
	}
	for i := range got.Tags {
		spoil(got.Tags[i].Data)
		got.Tags[i].Data, want.Tags[i].Data = nil, nil
		if shown(got) != shown(want) {
			t.Fatalf("the data of the tag %d are others' too", i)
		}
	}
	for i := range got.Other {
		spoil(got.Other[i].Data)
		got.Other[i].Data, want.Other[i].Data = nil, nil
		if shown(got) != shown(want) {
			t.Fatalf("the data of the other element %d are others' too", i)
		}
	}
	clear(got.Tags[:cap(got.Tags)])
	clear(got.Other[:cap(got.Other)])
	if _, want = rich(api.AuthAsk); shown(twin) != shown(want) {
		t.Fatal("what Decode told is what it tells another time")
	}
	one, _ := fields.Encode(want)
	two, _ := fields.Encode(want)
	spoil(one)
	if string(two) != f.String() || shown(twin) != shown(want) {
		t.Fatal("what Encode told is what it was given, or tells another time")
	}
	for i := range want.Other {
		spoil(want.Other[i].Data)
	}
	for i := range want.Tags {
		spoil(want.Tags[i].Data)
	}
	if string(two) != f.String() {
		t.Fatal("what Encode told is what it was given")
	}
}

func TestCallsHangOnTheirArgumentsAlone(t *testing.T) {
	ask := func() {
		for kind := 1; kind <= 11; kind++ {
			f, m := rich(kind)
			fields.Decode([]byte("2100"))
			fields.Encode(api.Message{Kind: api.Reject, Reason: "x", Other: make([]api.Element, 9)})
			fields.Head([]byte(f.without(12).String()))
			if b, e := fields.Encode(m); string(b) != f.String() || e != api.OK {
				t.Errorf("Encode of kind %d: %q, error %d", kind, b, e)
			}
			if got, e := fields.Decode([]byte(f.String())); shown(got) != shown(m) || e != api.OK {
				t.Errorf("Decode of kind %d: %+v, error %d", kind, got, e)
			}
			if h, is := fields.Head([]byte(f.String())); h.Stan != 7 || h.Time != when || h.Acquirer != "00123" || !is {
				t.Errorf("Head of kind %d: %+v, %v", kind, h, is)
			}
		}
	}
	ask()
	var wait sync.WaitGroup
	for range 8 {
		wait.Go(ask)
	}
	wait.Wait()
}
