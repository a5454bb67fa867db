package atica_test

import (
	"encoding/hex"
	"fmt"
	"math"
	"math/rand"
	"reflect"
	"regexp"
	"slices"
	"strconv"
	"strings"
	"sync"
	"testing"

	"comptoir/api"
	"comptoir/atica"
	"comptoir/codes"
	"comptoir/kinds"
	"comptoir/model"
	"comptoir/simple"
	"comptoir/text"
	"comptoir/tlv"
	"comptoir/tree"
)

const (
	when   = "20260102030405"
	shown  = "2026-01-02T03:04:05"
	before = "20251231235959"
	since  = "2025-12-31T23:59:59"
)

// names are the kinds' codes, by their numbers.
var names = []string{"", "AUTQ", "AUTP", "CMPV", "CMPK", "RVRA", "RVRR", "RCLQ", "RCLP", "DGNQ", "DGNP", "RJCT"}

// sample is an element of a body, as it stands in a file, and how what it tells is laid into a message.
type sample struct {
	element string
	lay     func(m *api.Message)
}

// samples are one of each element that a body may have, in order; both words of an action are laid by the second one.
func samples() []sample {
	return []sample{
		{"<PAN>4000000000000002</PAN>", func(m *api.Message) { m.Pan = "4000000000000002" }},
		{"<TtlAmt>12.05</TtlAmt>", func(m *api.Message) { m.Amount = 1205 }},
		{"<Ccy>978</Ccy>", func(m *api.Message) { m.Currency = "978" }},
		{"<RRN>ABCdef123456</RRN>", func(m *api.Message) { m.Rrn = "ABCdef123456" }},
		{"<MrchntId>Café &amp; &lt;Co&gt;</MrchntId>", func(m *api.Message) { m.Merchant = "Café & <Co>" }},
		{"<TermnlId>till &quot;1&quot;</TermnlId>", func(m *api.Message) { m.Terminal = `till "1"` }},
		{"<NtryMd>51</NtryMd>", func(m *api.Message) { m.Entry = 51 }},
		{"<Rspn>DECL</Rspn>", func(m *api.Message) {}},
		{"<RspnRsn>INSF</RspnRsn>", func(m *api.Message) { m.Action = "116" }},
		{"<AuthstnCd>a1B2c3</AuthstnCd>", func(m *api.Message) { m.Approval = "a1B2c3" }},
		{"<Rsn>4021</Rsn>", func(m *api.Message) { m.Reason = "4021" }},
		{"<OrgnlTx><XchgId>99</XchgId><CreDtTm>" + since + "</CreDtTm></OrgnlTx>", func(m *api.Message) { m.Origin = api.Origin{Stan: 99, Time: before} }},
		{"<ICCData>9F020201FF9500</ICCData>", func(m *api.Message) { m.Tags = []api.Tag{{Tag: 0x9f02, Data: []byte{1, 255}}, {Tag: 0x95}} }},
		{"<Note>a note's</Note>", func(m *api.Message) { m.Note = "a note's" }},
		{"<SplmtryData><Nm>a</Nm><Val>b</Val></SplmtryData><SplmtryData><Nm>a</Nm><Val>c d</Val></SplmtryData>", func(m *api.Message) { m.Extra = []api.Pair{{Key: "a", Val: "b"}, {Key: "a", Val: "c d"}} }},
		{"<RsdlKey>0000ABCD</RsdlKey>", func(m *api.Message) { m.Key = "0000ABCD" }},
	}
}

// parted is how many of the samples kinds.Fits, or a chapter's word on pairs, asks for: those ahead of Note.
const parted = 13

// headed is a header.
func headed(code, number, time, acquirer string) string {
	return "<Hdr><MsgFctn>" + code + "</MsgFctn><XchgId>" + number + "</XchgId><CreDtTm>" + time + "</CreDtTm><InitgPty>" + acquirer + "</InitgPty></Hdr>"
}

// filed is a file of a header and what its body has.
func filed(header, body string) string {
	if body == "" {
		return `<Document xmlns="urn:comptoir:caaa">` + header + "<Body/></Document>"
	}
	return `<Document xmlns="urn:comptoir:caaa">` + header + "<Body>" + body + "</Body></Document>"
}

// of is the file of that kind with these samples, and what it tells if that is let.
func of(kind int, set func(i int) bool) (string, api.Message) {
	m := api.Message{Kind: kind, Stan: 7, Time: when, Acquirer: "00123"}
	body := ""
	for i, x := range samples() {
		if set(i) {
			body += x.element
			x.lay(&m)
		}
	}
	return filed(headed(names[kind], "7", shown, "00123"), body), m
}

// bits tells the samples of a set.
func bits(set int) func(i int) bool {
	return func(i int) bool { return set>>i&1 == 1 }
}

// digitsOf is the digits of s alone.
func digitsOf(s string) string {
	return strings.Map(func(c rune) rune {
		if c < '0' || c > '9' {
			return -1
		}
		return c
	}, s)
}

// numberOf is that of digits; 0 of none.
func numberOf(s string) int {
	n, _ := strconv.Atoi(digitsOf(s))
	return n
}

// read is the texts of a file that may be, by the names of the element that each stands in and of its own, and its pairs.
func read(s string) (map[string]string, []api.Pair, api.Errno) {
	l, e := tree.Parse(s)
	if e == api.OK {
		e = model.Check(l)
	}
	if e != api.OK {
		return nil, nil, e
	}
	texts := map[string]string{}
	var pairs []api.Pair
	for _, n := range l[1:] {
		switch n.Name {
		case "Nm":
			pairs = append(pairs, api.Pair{Key: n.Text})
		case "Val":
			pairs[len(pairs)-1].Val = n.Text
		default:
			texts[l[n.Parent].Name+"/"+n.Name] = n.Text
		}
	}
	return texts, pairs, api.OK
}

// decoded is what the chapter tells of s, asked anew.
func decoded(s string) (api.Message, api.Errno) {
	x, pairs, e := read(s)
	if e != api.OK {
		return api.Message{}, e
	}
	has := func(name string) bool {
		_, is := x["Body/"+name]
		return is
	}
	kind := slices.Index(names, x["Hdr/MsgFctn"])
	action, known := codes.Action(x["Body/Rspn"], x["Body/RspnRsn"])
	chip, _ := hex.DecodeString(x["Body/ICCData"])
	tags, bad := tlv.Parse(chip)
	m := api.Message{
		Kind: kind, Stan: numberOf(x["Hdr/XchgId"]), Time: digitsOf(x["Hdr/CreDtTm"]), Acquirer: x["Hdr/InitgPty"],
		Pan: x["Body/PAN"], Currency: x["Body/Ccy"], Amount: uint64(numberOf(x["Body/TtlAmt"])),
		Rrn: x["Body/RRN"], Merchant: x["Body/MrchntId"], Terminal: x["Body/TermnlId"], Approval: x["Body/AuthstnCd"],
		Entry: numberOf(x["Body/NtryMd"]), Action: action, Reason: x["Body/Rsn"],
		Origin: api.Origin{Stan: numberOf(x["OrgnlTx/XchgId"]), Time: digitsOf(x["OrgnlTx/CreDtTm"])},
		Tags:   tags, Key: x["Body/RsdlKey"], Note: x["Body/Note"], Extra: pairs,
	}
	switch {
	case kind < 1:
		e = api.ErrKind
	case has("TtlAmt") != has("Ccy"), has("Rspn") != has("RspnRsn"), has("NtryMd") && m.Entry == 0:
		e = api.ErrField
	case has("Rspn") && !known:
		e = api.ErrCode
	case has("ICCData") && bad != api.OK:
		e = api.ErrTag
	default:
		e = kinds.Fits(m)
	}
	if e != api.OK {
		return api.Message{}, e
	}
	return m, api.OK
}

// The values that the models let, but for texts, times and amounts; "" where one may be left out.
var forms = map[string]*regexp.Regexp{
	"Acquirer": regexp.MustCompile(`\A\d{1,11}\z`),
	"Pan":      regexp.MustCompile(`\A(\d{12,19})?\z`),
	"Currency": regexp.MustCompile(`\A(\d{3})?\z`),
	"Rrn":      regexp.MustCompile(`\A([0-9A-Za-z]{12})?\z`),
	"Approval": regexp.MustCompile(`\A([0-9A-Za-z]{6})?\z`),
	"Reason":   regexp.MustCompile(`\A(\d{4})?\z`),
	"Key":      regexp.MustCompile(`\A([0-9A-F]{8})?\z`),
}

// lets tells whether all of m may stand in a file.
func lets(m api.Message) bool {
	chip, bad := tlv.Write(m.Tags)
	for name, form := range forms {
		if !form.MatchString(reflect.ValueOf(m).FieldByName(name).String()) {
			return false
		}
	}
	for _, p := range m.Extra {
		if !text.Plain(p.Key, 1, 20) || !text.Plain(p.Val, 1, 100) {
			return false
		}
	}
	return m.Stan >= 0 && m.Stan <= 999_999 && m.Entry >= 0 && m.Entry <= 999 && m.Origin.Stan >= 0 && m.Origin.Stan <= 999_999 &&
		(m.Action == "" || codes.Known(m.Action)) && bad == api.OK && len(chip) <= 255 && m.Amount <= 999_999_999_999 && len(m.Extra) <= 8 &&
		simple.Time(m.Time) && (m.Origin.Time == "" || simple.Time(m.Origin.Time)) &&
		text.Plain(m.Merchant, 0, 35) && text.Plain(m.Terminal, 0, 35) && text.Plain(m.Note, 0, 140)
}

// timed is a time as it stands in a file.
func timed(s string) string {
	return s[:4] + "-" + s[4:6] + "-" + s[6:8] + "T" + s[8:10] + ":" + s[10:12] + ":" + s[12:]
}

// element is one as it stands in a file; "" of no text.
func element(name, s string) string {
	if s == "" {
		return ""
	}
	return "<" + name + ">" + strings.NewReplacer("&", "&amp;", "<", "&lt;", ">", "&gt;", `"`, "&quot;").Replace(s) + "</" + name + ">"
}

// composed is the file of a message that may stand in one.
func composed(m api.Message) string {
	amount, entry, origin, extra := "", "", "", ""
	if m.Currency != "" {
		amount = fmt.Sprintf("%d.%02d", m.Amount/100, m.Amount%100)
	}
	if m.Entry != 0 {
		entry = fmt.Sprint(m.Entry)
	}
	if m.Origin.Time != "" {
		origin = "<OrgnlTx>" + element("XchgId", fmt.Sprint(m.Origin.Stan)) + element("CreDtTm", timed(m.Origin.Time)) + "</OrgnlTx>"
	}
	for _, p := range m.Extra {
		extra += "<SplmtryData>" + element("Nm", p.Key) + element("Val", p.Val) + "</SplmtryData>"
	}
	status, reason, _ := codes.Words(m.Action)
	chip, _ := tlv.Write(m.Tags)
	return filed(headed(names[m.Kind], fmt.Sprint(m.Stan), timed(m.Time), m.Acquirer),
		element("PAN", m.Pan)+element("TtlAmt", amount)+element("Ccy", m.Currency)+element("RRN", m.Rrn)+
			element("MrchntId", m.Merchant)+element("TermnlId", m.Terminal)+element("NtryMd", entry)+
			element("Rspn", status)+element("RspnRsn", reason)+element("AuthstnCd", m.Approval)+element("Rsn", m.Reason)+
			origin+element("ICCData", strings.ToUpper(hex.EncodeToString(chip)))+element("Note", m.Note)+extra+element("RsdlKey", m.Key))
}

// encoded is what the chapter tells of m, asked anew.
func encoded(m api.Message) (string, api.Errno) {
	if e := kinds.Fits(m); e != api.OK {
		return "", e
	}
	if len(m.Other) > 0 {
		return "", api.ErrField
	}
	if !lets(m) {
		return "", api.ErrArg
	}
	s := composed(m)
	if len(s) > 4_096 {
		return "", api.ErrBig
	}
	return s, api.OK
}

// begun is an element that begins, with whatever attributes.
func begun(name string) string {
	return `<` + name + `(?:"[^"]*"|'[^']*'|[^<>"'/])*>`
}

// ended is one that ends, and blanks behind it.
func ended(name string) string {
	return `</` + name + `\s*>\s*`
}

// leads is what s begins with if Head tells something of it: whether it is a file is asked besides.
var leads = regexp.MustCompile(`\A\s*` + begun(`[A-Za-z_][-.:\w]*`) + `\s*` + begun("Hdr") + `\s*` +
	begun("MsgFctn") + `[A-Z]{4}` + ended("MsgFctn") + begun("XchgId") + `(\d{1,6})` + ended("XchgId") +
	begun("CreDtTm") + `(\d{4}-\d\d-\d\dT\d\d:\d\d:\d\d)` + ended("CreDtTm") + begun("InitgPty") + `(\d{1,11})` + ended("InitgPty") + ended("Hdr"))

// leading is what the chapter tells of the head of s, asked anew.
func leading(s string) (api.Message, bool) {
	_, e := tree.Parse(s)
	x := leads.FindStringSubmatch(s)
	if e != api.OK || x == nil || !simple.Time(digitsOf(x[2])) {
		return api.Message{}, false
	}
	return api.Message{Stan: numberOf(x[1]), Time: digitsOf(x[2]), Acquirer: x[3]}, true
}

// same tells whether two messages are; no list and one of none are the same.
func same(a, b api.Message) bool {
	return reflect.DeepEqual(plain(a), plain(b))
}

// plain is m without empty lists.
func plain(m api.Message) api.Message {
	m.Tags = slices.Clone(m.Tags)
	for i := range m.Tags {
		m.Tags[i].Data = append([]byte{}, m.Tags[i].Data...)
	}
	m.Tags, m.Extra, m.Other = append([]api.Tag{}, m.Tags...), append([]api.Pair{}, m.Extra...), append([]api.Element{}, m.Other...)
	return m
}

// decodes fails unless Decode tells want, or the error, of s.
func decodes(t *testing.T, s string, want api.Message, fault api.Errno) {
	t.Helper()
	if m, e := atica.Decode(s); e != fault || !same(m, want) {
		t.Errorf("Decode(%s): %+v, error %d; want %+v, error %d", s, m, e, want, fault)
	}
}

// encodes fails unless Encode tells want, or the error, of m.
func encodes(t *testing.T, m api.Message, want string, fault api.Errno) {
	t.Helper()
	if s, e := atica.Encode(m); e != fault || s != want {
		t.Errorf("Encode(%+v): %s, error %d; want %s, error %d", m, s, e, want, fault)
	}
}

// heads fails unless Head tells want of s, or false.
func heads(t *testing.T, s string, want api.Message, ok bool) {
	t.Helper()
	if m, is := atica.Head(s); is != ok || !same(m, want) {
		t.Errorf("Head(%s): %+v, %v; want %+v, %v", s, m, is, want, ok)
	}
}

// both fails unless m is encoded as s, and that decoded as m, and its head told.
func both(t *testing.T, m api.Message, s string) {
	t.Helper()
	encodes(t, m, s, api.OK)
	decodes(t, s, m, api.OK)
	heads(t, s, api.Message{Stan: m.Stan, Time: m.Time, Acquirer: m.Acquirer}, true)
}

// asked holds Decode and Head of s against the chapter asked anew.
func asked(t *testing.T, s string) api.Errno {
	t.Helper()
	m, e := decoded(s)
	decodes(t, s, m, e)
	h, is := leading(s)
	heads(t, s, h, is)
	return e
}

// full is a file of that kind with all that it may have, and what it tells.
func full(kind int) (string, api.Message) {
	most := 0
	for set := range 1 << parted {
		_, m := of(kind, bits(set))
		if popcount(set) > popcount(most) && paired(set) && kinds.Fits(m) == api.OK {
			most = set
		}
	}
	return of(kind, bits(most|7<<parted))
}

// popcount is how many are in a set.
func popcount(set int) int {
	n := 0
	for ; set > 0; set >>= 1 {
		n += set & 1
	}
	return n
}

// paired tells whether a set has both of an amount and its currency, or neither, and likewise of an action's words.
func paired(set int) bool {
	return set>>1&1 == set>>2&1 && set>>7&1 == set>>8&1
}

// told is a file, and what it tells.
type told struct {
	s string
	m api.Message
}

// mosts are the files of all kinds with all that they may have, worked out once.
var mosts = sync.OnceValue(func() []told {
	out := []told{{}}
	for kind := 1; kind <= 11; kind++ {
		s, m := full(kind)
		out = append(out, told{s, m})
	}
	return out
})

// rich is a message of that kind with all that it may have, and its file.
func rich(kind int) (string, api.Message) {
	x := mosts()[kind]
	return x.s, plain(x.m)
}

// turned is s with a piece of it replaced, which must be there.
func turned(t testing.TB, s, old, put string) string {
	t.Helper()
	if strings.Count(s, old) != 1 {
		t.Fatalf("%q is there %d times", old, strings.Count(s, old))
	}
	return strings.Replace(s, old, put, 1)
}

func TestTheChaptersExample(t *testing.T) {
	decodes(t, "", api.Message{}, api.ErrTree)
}

func TestAllThatEachKindMayHave(t *testing.T) {
	for kind := 1; kind <= 11; kind++ {
		s, m := rich(kind)
		both(t, m, s)
		if composed(m) != s {
			t.Errorf("the tests' own file of kind %d is another: %s", kind, composed(m))
		}
	}
}

func TestAllSetsOfWhatABodyMayHave(t *testing.T) {
	right := 0
	for set := range 1 << parted {
		for kind := 1; kind <= 11; kind++ {
			s, m := of(kind, bits(set))
			want := api.OK
			if !paired(set) || kinds.Fits(m) != api.OK {
				// Of those that are wrong but some are asked, for time's sake.
				if (set+kind)%5 > 0 {
					continue
				}
				decodes(t, s, api.Message{}, api.ErrField)
				want = api.ErrField
			}
			if want == api.OK {
				right++
				both(t, m, s)
			}
		}
	}
	if right != 8+32+32+2+8+2+1+2+1+1+1 {
		t.Errorf("%d are right", right)
	}
}

func TestWhatPlaysNoPartInKinds(t *testing.T) {
	for kind := 1; kind <= 11; kind++ {
		_, m := rich(kind)
		for set := range 8 {
			x := m
			if set&1 == 0 {
				x.Note = ""
			}
			if set&2 == 0 {
				x.Extra = nil
			}
			if set&4 == 0 {
				x.Key = ""
			}
			both(t, x, composed(x))
		}
	}
}

func TestWhatIsParsedAndCheckedAheadOfAllElse(t *testing.T) {
	s, _ := rich(api.AuthAsk)
	for _, x := range []struct {
		s    string
		want api.Errno
	}{
		{"", api.ErrTree},
		{" ", api.ErrTree},
		{"<a", api.ErrToken},
		{"<a>", api.ErrTree},
		{"<a/>", api.ErrModel},
		{s + "x", api.ErrTree},
		{s + "<a/>", api.ErrTree},
		{s + strings.Repeat(" ", 4_096-len(s)), api.OK},
		{s + strings.Repeat(" ", 4_097-len(s)), api.ErrBig},
		{strings.Repeat("<a>", 33) + strings.Repeat("</a>", 33), api.ErrDeep},
		{"<a>" + strings.Repeat("<a/>", 500) + "</a>", api.ErrBig},
		{turned(t, s, "<Body>", "<Body>x"), api.ErrMixed},
		{turned(t, s, "<Body>", "<Body>\t\r\n "), api.OK},
		{turned(t, s, "urn:comptoir:caaa", "urn:comptoir:caab"), api.ErrModel},
		{turned(t, s, "<PAN>", "<PAN a=\"b\">"), api.ErrModel},
		{turned(t, s, "<PAN>4000000000000002</PAN>", "<Pan>4000000000000002</Pan>"), api.ErrModel},
		{turned(t, s, "<PAN>4000000000000002</PAN>", "<PAN/>"), api.ErrType},
		{turned(t, s, "12.05", "12.5"), api.ErrType},
		{turned(t, s, "12.05", "012.05"), api.ErrType},
		{turned(t, s, "00123", "123456789012"), api.ErrType},
		{turned(t, s, shown, "2026-02-30T03:04:05"), api.ErrType},
		{turned(t, s, "9F020201FF9500", "9F020201FF950"), api.ErrType},
		{turned(t, s, "9F020201FF9500", "9f020201FF9500"), api.ErrType},
		{turned(t, s, "0000ABCD", "0000abcd"), api.ErrType},
	} {
		if e := asked(t, x.s); e != x.want {
			t.Errorf("Decode(%s): error %d; want %d", x.s, e, x.want)
		}
	}
}

func TestCodesOfNoKind(t *testing.T) {
	s, _ := rich(api.DiagAsk)
	for _, code := range []string{"AAAA", "AUTX", "AUTO", "DGNN", "DGNR", "RJCS", "ZZZZ"} {
		decodes(t, turned(t, s, "DGNQ", code), api.Message{}, api.ErrKind)
	}
	for _, code := range []string{"", "dgnq", "DGN", "DGNQQ", "2800"} {
		decodes(t, turned(t, s, "DGNQ", code), api.Message{}, api.ErrType)
	}
}

func TestEveryCodeOnAFileOfEveryKind(t *testing.T) {
	for kind := 1; kind <= 11; kind++ {
		s, m := rich(kind)
		for other := 1; other <= 11; other++ {
			x := m
			x.Kind = other
			if e := kinds.Fits(x); e != api.OK {
				x = api.Message{}
				decodes(t, turned(t, s, names[kind], names[other]), x, e)
				continue
			}
			decodes(t, turned(t, s, names[kind], names[other]), x, api.OK)
		}
	}
}

func TestNumbersAreReadWithNoughtsAndWrittenWithout(t *testing.T) {
	s, m := rich(api.RevAsk)
	for _, n := range []int{0, 1, 9, 10, 99, 100, 12_345, 99_999, 100_000, 999_999} {
		for width := 1; width <= 6; width++ {
			x := fmt.Sprintf("%0*d", width, n)
			if len(x) > 6 {
				continue
			}
			m.Stan, m.Origin.Stan = n, 99
			decodes(t, turned(t, s, "<XchgId>7<", "<XchgId>"+x+"<"), m, api.OK)
			heads(t, turned(t, s, "<XchgId>7<", "<XchgId>"+x+"<"), api.Message{Stan: n, Time: when, Acquirer: "00123"}, true)
			encodes(t, m, turned(t, s, "<XchgId>7<", "<XchgId>"+fmt.Sprint(n)+"<"), api.OK)
			m.Stan, m.Origin.Stan = 7, n
			decodes(t, turned(t, s, "<XchgId>99<", "<XchgId>"+x+"<"), m, api.OK)
			encodes(t, m, turned(t, s, "<XchgId>99<", "<XchgId>"+fmt.Sprint(n)+"<"), api.OK)
		}
	}
	for _, x := range []string{"0000007", "1000000", "-1", "+1", " 7", "7 ", "7.0", "x", "٧", ""} {
		decodes(t, turned(t, s, "<XchgId>7<", "<XchgId>"+x+"<"), api.Message{}, api.ErrType)
		decodes(t, turned(t, s, "<XchgId>99<", "<XchgId>"+x+"<"), api.Message{}, api.ErrType)
		heads(t, turned(t, s, "<XchgId>7<", "<XchgId>"+x+"<"), api.Message{}, false)
		heads(t, turned(t, s, "<XchgId>99<", "<XchgId>"+x+"<"), api.Message{Stan: 7, Time: when, Acquirer: "00123"}, true)
	}
}

func TestAllEntriesOfUpToFourDigits(t *testing.T) {
	s, m := rich(api.CompAsk)
	for width := 1; width <= 4; width++ {
		for n := range int(math.Pow10(width)) {
			file := turned(t, s, "<NtryMd>51<", fmt.Sprintf("<NtryMd>%0*d<", width, n))
			m.Entry = n
			switch {
			case width > 3:
				if n%97 == 0 {
					decodes(t, file, api.Message{}, api.ErrType)
				}
			case n == 0:
				decodes(t, file, api.Message{}, api.ErrField)
			default:
				decodes(t, file, m, api.OK)
				encodes(t, m, turned(t, s, "<NtryMd>51<", fmt.Sprintf("<NtryMd>%d<", n)), api.OK)
			}
		}
	}
	// None is not there, where it need not be.
	m.Entry = 0
	both(t, m, turned(t, s, "<NtryMd>51</NtryMd>", ""))
}

func TestTextsOfDigitsKeepTheirNoughts(t *testing.T) {
	s, m := rich(api.RevAsk)
	m.Acquirer, m.Pan, m.Currency, m.Reason, m.Rrn, m.Key = "0", "0000000000000", "008", "0000", "000000000000", "00000000"
	s = turned(t, turned(t, turned(t, s, "00123", "0"), "4000000000000002", "0000000000000"), "978", "008")
	s = turned(t, turned(t, turned(t, s, "4021", "0000"), "ABCdef123456", "000000000000"), "0000ABCD", "00000000")
	both(t, m, s)
}

func TestAmounts(t *testing.T) {
	s, m := rich(api.RecAsk)
	if m.Amount != 1205 {
		t.Fatal(m.Amount)
	}
	for _, x := range []struct {
		v    uint64
		text string
	}{{0, "0.00"}, {1, "0.01"}, {10, "0.10"}, {99, "0.99"}, {100, "1.00"}, {1205, "12.05"}, {999_999_999_998, "9999999999.98"}, {999_999_999_999, "9999999999.99"}} {
		m.Amount = x.v
		both(t, m, turned(t, s, "12.05", x.text))
	}
	for _, v := range []uint64{1_000_000_000_000, 1 << 62, 1 << 63, math.MaxUint64} {
		m.Amount = v
		encodes(t, m, "", api.ErrArg)
	}
	for _, x := range []string{"", "0", "1205", ".05", "00.05", "12.050", "10000000000.00", "-1.00", "12,05", " 12.05"} {
		decodes(t, turned(t, s, "12.05", x), api.Message{}, api.ErrType)
	}
}

func TestAnAmountAndItsCurrencyAreThereTogether(t *testing.T) {
	for kind := 1; kind <= 11; kind++ {
		s, m := rich(kind)
		if m.Currency == "" {
			// Where neither may be, one of them is no better.
			decodes(t, turned(t, s, "</Body>", "<TtlAmt>0.00</TtlAmt></Body>"), api.Message{}, api.ErrModel)
			continue
		}
		decodes(t, turned(t, s, "<TtlAmt>12.05</TtlAmt>", ""), api.Message{}, api.ErrField)
		decodes(t, turned(t, s, "<Ccy>978</Ccy>", ""), api.Message{}, api.ErrField)
		m.Currency, m.Amount = "", 0
		want := m
		e := kinds.Fits(m)
		if e != api.OK {
			want = api.Message{}
		}
		decodes(t, turned(t, s, "<TtlAmt>12.05</TtlAmt><Ccy>978</Ccy>", ""), want, e)
		m.Amount = 1
		encodes(t, m, "", api.ErrField)
	}
	// An amount of nought does not stand for none.
	s, _ := of(api.CompTell, bits(3<<7|1<<1))
	decodes(t, turned(t, s, "12.05", "0.00"), api.Message{}, api.ErrField)
}

func TestAllWordsOfActions(t *testing.T) {
	s, m := rich(api.DiagTell)
	known := 0
	var all []string
	for _, action := range codes.All() {
		status, reason, _ := codes.Words(action)
		all = append(all, status, reason)
	}
	slices.Sort(all)
	all = append(slices.Compact(all), "AAAA", "APPS", "NORN")
	for _, status := range all {
		for _, reason := range all {
			file := turned(t, s, "DECL</Rspn><RspnRsn>INSF", status+"</Rspn><RspnRsn>"+reason)
			action, ok := codes.Action(status, reason)
			if !ok {
				decodes(t, file, api.Message{}, api.ErrCode)
				continue
			}
			known++
			m.Action = action
			both(t, m, file)
		}
	}
	if known != len(codes.All()) {
		t.Errorf("%d actions are told", known)
	}
}

func TestActionsThatAreNone(t *testing.T) {
	_, m := rich(api.CompAsk)
	for n := range 1_000 {
		action := fmt.Sprintf("%03d", n)
		x := m
		x.Action = action
		s, e := encoded(x)
		encodes(t, x, s, e)
		if (e == api.OK) != slices.Contains(codes.All(), action) {
			t.Errorf("action %s: error %d", action, e)
		}
	}
	for _, action := range []string{"0", "00", "0000", " 000", "116 ", "DECL", "INSF", "\xff", "１１６"} {
		m.Action = action
		encodes(t, m, "", api.ErrArg)
	}
}

func TestWordsOfAnActionAreThereTogether(t *testing.T) {
	for kind := 1; kind <= 11; kind++ {
		s, m := rich(kind)
		if m.Action == "" {
			continue
		}
		decodes(t, turned(t, s, "<Rspn>DECL</Rspn>", ""), api.Message{}, api.ErrField)
		decodes(t, turned(t, s, "<RspnRsn>INSF</RspnRsn>", ""), api.Message{}, api.ErrField)
		m.Action = ""
		want := m
		e := kinds.Fits(m)
		if e != api.OK {
			want = api.Message{}
		}
		decodes(t, turned(t, s, "<Rspn>DECL</Rspn><RspnRsn>INSF</RspnRsn>", ""), want, e)
	}
}

func TestTagsOfAChip(t *testing.T) {
	s, m := rich(api.AuthTell)
	const old = "9F020201FF9500"
	for _, x := range []struct {
		chip string
		tags []api.Tag
	}{
		{"9501FF", []api.Tag{{Tag: 0x95, Data: []byte{255}}}},
		{"0100", []api.Tag{{Tag: 1}}},
		{"FE00" + "0100", []api.Tag{{Tag: 254}, {Tag: 1}}},
		{"1F0000", []api.Tag{{Tag: 0x1f00}}},
		{"DF7F0100", []api.Tag{{Tag: 0xdf7f, Data: []byte{0}}}},
		{"0181FC" + strings.Repeat("0A", 252), []api.Tag{{Tag: 1, Data: []byte(strings.Repeat("\n", 252))}}},
	} {
		m.Tags = x.tags
		both(t, m, turned(t, s, old, x.chip))
	}
	for _, x := range []string{"00", "0000", "FF00", "95", "9F", "9F80", "9501", "95010", "9580", "957F", "958100", "95817F", "010001", "01000100", "9F02009F0200", old + "00", old + "9500", old + "FF"} {
		want := api.ErrTag
		if len(x)%2 == 1 {
			want = api.ErrType
		}
		decodes(t, turned(t, s, old, x), api.Message{}, want)
	}
	for _, l := range [][]api.Tag{
		{{Tag: 0}}, {{Tag: 255}}, {{Tag: 31}}, {{Tag: -1}}, {{Tag: 0x9f80}}, {{Tag: 0x9502}}, {{Tag: 1}, {Tag: 1}},
		{{Tag: 1, Data: make([]byte, 253)}}, {{Tag: 1, Data: make([]byte, 256)}}, {{Tag: 1, Data: make([]byte, 124)}, {Tag: 2, Data: make([]byte, 128)}},
	} {
		m.Tags = l
		encodes(t, m, "", api.ErrArg)
	}
	m.Tags = []api.Tag{{Tag: 1, Data: make([]byte, 123)}, {Tag: 2, Data: make([]byte, 127)}, {Tag: 3}}
	encodes(t, m, "", api.ErrArg)
	m.Tags = m.Tags[:2]
	both(t, m, turned(t, s, old, "017B"+strings.Repeat("00", 123)+"027F"+strings.Repeat("00", 127)))
}

func TestAsManyTagsAsThereMayBe(t *testing.T) {
	s, m := rich(api.AuthAsk)
	m.Tags = nil
	chip := ""
	for i := range 21 {
		if i == 20 {
			both(t, m, turned(t, s, "9F020201FF9500", chip))
		}
		m.Tags = append(m.Tags, api.Tag{Tag: 32 + i, Data: []byte{byte(i)}})
		chip += fmt.Sprintf("%02X01%02X", 32+i, i)
	}
	encodes(t, m, "", api.ErrArg)
	decodes(t, turned(t, s, "9F020201FF9500", chip), api.Message{}, api.ErrTag)
}

func TestTimes(t *testing.T) {
	s, m := rich(api.RevAsk)
	for _, x := range []string{"00010101000000", "99991231235959", "20240229120000", "20000229000001", "19000228010203"} {
		m.Time, m.Origin.Time = x, before
		both(t, m, turned(t, s, shown, timed(x)))
		m.Time, m.Origin.Time = when, x
		both(t, m, turned(t, s, since, timed(x)))
	}
	for _, x := range []string{"00000101000000", "20260229000000", "19000229000000", "20261301000000", "20260100000000", "20260101240000", "20260101006000", "20260101000060"} {
		m.Time, m.Origin.Time = x, before
		encodes(t, m, "", api.ErrArg)
		decodes(t, turned(t, s, shown, timed(x)), api.Message{}, api.ErrType)
		heads(t, turned(t, s, shown, timed(x)), api.Message{}, false)
		m.Time, m.Origin.Time = when, x
		encodes(t, m, "", api.ErrArg)
		decodes(t, turned(t, s, since, timed(x)), api.Message{}, api.ErrType)
	}
	for _, x := range []string{"2026010203040", "202601020304050", "2026010203040x", shown, " ", "\xff"} {
		m.Time, m.Origin.Time = x, before
		encodes(t, m, "", api.ErrArg)
		m.Time, m.Origin.Time = when, x
		encodes(t, m, "", api.ErrArg)
	}
	// Without one, a message of any kind cannot be said; an origin is none.
	m.Time, m.Origin.Time = "", before
	encodes(t, m, "", api.ErrArg)
	m.Time, m.Origin.Time = when, ""
	encodes(t, m, "", api.ErrField)
}

func TestAnOriginThatNeedNotBe(t *testing.T) {
	s, m := rich(api.CompAsk)
	const old = "<OrgnlTx><XchgId>99</XchgId><CreDtTm>" + since + "</CreDtTm></OrgnlTx>"
	m.Origin = api.Origin{}
	both(t, m, turned(t, s, old, ""))
	m.Origin.Stan = 99
	encodes(t, m, "", api.ErrField)
	decodes(t, turned(t, s, old, "<OrgnlTx/>"), api.Message{}, api.ErrModel)
	decodes(t, turned(t, s, old, "<OrgnlTx><XchgId>99</XchgId></OrgnlTx>"), api.Message{}, api.ErrModel)
	decodes(t, turned(t, s, old, "<OrgnlTx><CreDtTm>"+since+"</CreDtTm></OrgnlTx>"), api.Message{}, api.ErrModel)
	// The origin may be what the message itself is named by.
	m.Origin = api.Origin{Stan: 7, Time: when}
	both(t, m, turned(t, s, old, "<OrgnlTx><XchgId>7</XchgId><CreDtTm>"+shown+"</CreDtTm></OrgnlTx>"))
}

// longest is a text of n characters of that sign, of as many bytes each.
func longest(sign string, n int) string {
	return strings.Repeat(sign, n)
}

// field is a text of a message, and how many characters it may have.
type field struct {
	name string
	at   func(m *api.Message) *string
	top  int
}

// free are the texts that may be of any characters.
func free() []field {
	return []field{
		{"MrchntId", func(m *api.Message) *string { return &m.Merchant }, 35},
		{"TermnlId", func(m *api.Message) *string { return &m.Terminal }, 35},
		{"Note", func(m *api.Message) *string { return &m.Note }, 140},
		{"Nm", func(m *api.Message) *string { return &m.Extra[0].Key }, 20},
		{"Val", func(m *api.Message) *string { return &m.Extra[0].Val }, 100},
	}
}

func TestFreeTexts(t *testing.T) {
	for _, x := range free() {
		_, m := rich(api.AuthAsk)
		m.Extra = m.Extra[:1]
		for _, s := range []string{"a", "&", "<", ">", `"`, "'", "&amp;", "&lt;b&gt;", "]]>", "<!--", "</" + x.name + ">", "a  b", "é", "€", "😀", "\u00a0", "\u0085", "\u2028", "\ufeff", "\ufffd", "~\x7f", longest("&", x.top), longest("é", x.top), longest("😀", x.top)} {
			if x.top < 35 && len([]rune(s)) > x.top {
				continue
			}
			*x.at(&m) = s
			both(t, m, composed(m))
		}
		for _, s := range []string{" ", " a", "a ", "\t", "a\tb", "a\nb", "a\rb", "\x00", "a\x1f", "\xff", "a\xc3", "\xed\xa0\x80", "\ufffe", "\uffff", longest("a", x.top+1), longest("é", x.top+1), longest("a", 500_000)} {
			*x.at(&m) = s
			encodes(t, m, "", api.ErrArg)
		}
	}
}

func TestTextsThatAreReadInWhateverFormTheyAreWritten(t *testing.T) {
	s, m := rich(api.AuthAsk)
	m.Note = `it's "x" > y & z`
	for _, x := range []string{"it's &quot;x&quot; &gt; y &amp; z", "it&apos;s \"x\" > y &amp; z", `it's &quot;x" > y &amp; z`} {
		decodes(t, turned(t, s, "a note's", x), m, api.OK)
	}
	s = turned(t, turned(t, s, `"urn:comptoir:caaa"`, "'urn:comptoir:caaa'"), "<RRN>", "<RRN >")
	_, m = rich(api.AuthAsk)
	decodes(t, "\n"+turned(t, s, "</PAN>", "</PAN >\n\t"), m, api.OK)
}

func TestValuesOutsideTheModels(t *testing.T) {
	for _, x := range []struct {
		kind int
		turn func(m *api.Message)
	}{
		{api.DiagAsk, func(m *api.Message) { m.Acquirer = "" }},
		{api.DiagAsk, func(m *api.Message) { m.Acquirer = "123456789012" }},
		{api.DiagAsk, func(m *api.Message) { m.Acquirer = "12a" }},
		{api.DiagAsk, func(m *api.Message) { m.Acquirer = "12 " }},
		{api.DiagAsk, func(m *api.Message) { m.Stan = -1 }},
		{api.DiagAsk, func(m *api.Message) { m.Stan = 1_000_000 }},
		{api.DiagAsk, func(m *api.Message) { m.Stan = math.MinInt }},
		{api.DiagAsk, func(m *api.Message) { m.Stan = math.MaxInt }},
		{api.DiagAsk, func(m *api.Message) { m.Stan = 1<<32 + 7 }},
		{api.DiagAsk, func(m *api.Message) { m.Key = "0000ABC" }},
		{api.DiagAsk, func(m *api.Message) { m.Key = "0000ABCDE" }},
		{api.DiagAsk, func(m *api.Message) { m.Key = "0000ABCDEF" }},
		{api.DiagAsk, func(m *api.Message) { m.Key = "0000ABCG" }},
		{api.DiagAsk, func(m *api.Message) { m.Key = "0000abcd" }},
		{api.AuthAsk, func(m *api.Message) { m.Pan = "40000000000" }},
		{api.AuthAsk, func(m *api.Message) { m.Pan = "40000000000000000000" }},
		{api.AuthAsk, func(m *api.Message) { m.Pan = "4000000000000O02" }},
		{api.AuthAsk, func(m *api.Message) { m.Currency = "97" }},
		{api.AuthAsk, func(m *api.Message) { m.Currency = "9780" }},
		{api.AuthAsk, func(m *api.Message) { m.Currency = "EUR" }},
		{api.AuthAsk, func(m *api.Message) { m.Rrn = "12345678901" }},
		{api.AuthAsk, func(m *api.Message) { m.Rrn = "1234567890123" }},
		{api.AuthAsk, func(m *api.Message) { m.Rrn = "12345678901-" }},
		{api.AuthAsk, func(m *api.Message) { m.Entry = -1 }},
		{api.AuthAsk, func(m *api.Message) { m.Entry = 1_000 }},
		{api.AuthAsk, func(m *api.Message) { m.Entry = math.MinInt }},
		{api.AuthAsk, func(m *api.Message) { m.Entry = 1<<32 + 51 }},
		{api.CompAsk, func(m *api.Message) { m.Approval = "12345" }},
		{api.CompAsk, func(m *api.Message) { m.Approval = "1234567" }},
		{api.CompAsk, func(m *api.Message) { m.Approval = "12345é" }},
		{api.CompAsk, func(m *api.Message) { m.Origin.Stan = -1 }},
		{api.CompAsk, func(m *api.Message) { m.Origin.Stan = 1_000_000 }},
		{api.RevAsk, func(m *api.Message) { m.Reason = "402" }},
		{api.RevAsk, func(m *api.Message) { m.Reason = "40211" }},
		{api.RevAsk, func(m *api.Message) { m.Reason = "402A" }},
		{api.Reject, func(m *api.Message) { m.Reason = " 904" }},
		{api.DiagTell, func(m *api.Message) { m.Extra = make([]api.Pair, 1) }},
		{api.DiagTell, func(m *api.Message) { m.Extra = []api.Pair{{Key: "a"}} }},
		{api.DiagTell, func(m *api.Message) { m.Extra = []api.Pair{{Val: "a"}} }},
		{api.DiagTell, func(m *api.Message) { m.Extra = make([]api.Pair, 9) }},
		{api.DiagTell, func(m *api.Message) { m.Extra = make([]api.Pair, 5_000) }},
	} {
		_, m := rich(x.kind)
		x.turn(&m)
		if _, e := encoded(m); e != api.ErrArg {
			t.Fatalf("%+v: the chapter is told as error %d", m, e)
		}
		encodes(t, m, "", api.ErrArg)
	}
}

// pairs are so many, all alike but for their names.
func pairs(n int) []api.Pair {
	var out []api.Pair
	for i := range n {
		out = append(out, api.Pair{Key: strconv.Itoa(i), Val: "v"})
	}
	return out
}

func TestAsManyPairsAsThereMayBe(t *testing.T) {
	for kind := 1; kind <= 11; kind++ {
		_, m := rich(kind)
		for n := range 12 {
			m.Extra = pairs(n)
			if n > 8 {
				encodes(t, m, "", api.ErrArg)
				decodes(t, composed(m), api.Message{}, api.ErrModel)
				continue
			}
			both(t, m, composed(m))
		}
		m.Extra = []api.Pair{{Key: "b", Val: "2"}, {Key: "a", Val: "1"}, {Key: "b", Val: "2"}}
		both(t, m, composed(m))
	}
}

func TestFilesAsLongAsTheyMayBe(t *testing.T) {
	_, m := rich(api.AuthAsk)
	m.Extra = pairs(8)
	for i := range m.Extra {
		m.Extra[i].Val = longest("&", 80)
	}
	// Shorter by what is there already, in signs of five bytes each and then of one.
	left := 4_096 - len(composed(m))
	for i := range m.Extra {
		for left >= 5 && len(m.Extra[i].Val) < 100 {
			m.Extra[i].Val += "&"
			left -= 5
		}
	}
	m.Note += longest("x", left)
	if n := len(composed(m)); n != 4_096 {
		t.Fatalf("%d bytes", n)
	}
	both(t, m, composed(m))
	m.Note += "x"
	encodes(t, m, "", api.ErrBig)
	decodes(t, composed(m), api.Message{}, api.ErrBig)
	heads(t, composed(m), api.Message{}, false)
	// Wrong and too long, it is wrong.
	m.Stan = -1
	encodes(t, m, "", api.ErrArg)
}

// fault is a piece of a file with another in its place, and the error that this is.
type fault struct {
	old, put string
	e        api.Errno
}

func TestWhichErrorOfAFileCounts(t *testing.T) {
	s, _ := rich(api.CompAsk)
	s = turned(t, s, "</OrgnlTx>", "</OrgnlTx><ICCData>9500</ICCData>")
	// In the order in which they count; the last one is what kinds.Fits says of a chip's data in a CompAsk.
	for i, x := range []fault{
		{"<Body>", "<Body", api.ErrToken},
		{"</Body>", "</Bodies>", api.ErrTree},
		{"<Document ", "<Documents ", api.ErrTree},
		{"<RRN>", "<RRN x=''>", api.ErrModel},
		{"51", "0x", api.ErrType},
		{"CMPV", "CMPX", api.ErrKind},
		{"<TtlAmt>12.05</TtlAmt>", "", api.ErrField},
		{"<Ccy>978</Ccy>", "", api.ErrField},
		{"<RspnRsn>INSF</RspnRsn>", "", api.ErrField},
		{"51", "000", api.ErrField},
		{"INSF", "EXPE", api.ErrCode},
		{"9500", "9501", api.ErrTag},
		{"<Note>", "<Note>", api.ErrField},
	} {
		file := strings.Replace(s, x.old, x.put, 1)
		if e := asked(t, file); e != x.e {
			t.Errorf("the fault %d alone: error %d; want %d", i, e, x.e)
		}
	}
	all := []fault{
		{"</Document>", "</Document", api.ErrToken},
		{"</Body>", "</Bodies>", api.ErrTree},
		{"<RRN>", "<RRN x=''>", api.ErrModel},
		{"ABCdef123456", "ABC", api.ErrType},
		{"CMPV", "CMPX", api.ErrKind},
		{"<TtlAmt>12.05</TtlAmt>", "", api.ErrField},
		{"INSF", "EXPE", api.ErrCode},
		{"9500", "9501", api.ErrTag},
		{"<Note>", "<Note>", api.ErrField},
	}
	for i, x := range all {
		for _, y := range all[i:] {
			decodes(t, strings.Replace(strings.Replace(s, x.old, x.put, 1), y.old, y.put, 1), api.Message{}, x.e)
		}
	}
	// Each way to be ErrField counts ahead of a code, and of a tag, that is wrong.
	for _, x := range []fault{{"<TtlAmt>12.05</TtlAmt>", "", 0}, {"<Ccy>978</Ccy>", "", 0}, {"51", "0", 0}, {"<Rspn>DECL</Rspn>", "", 0}, {"<RspnRsn>EXPE</RspnRsn>", "", 0}} {
		file := strings.Replace(strings.Replace(s, "INSF", "EXPE", 1), "9500", "9501", 1)
		decodes(t, turned(t, file, x.old, x.put), api.Message{}, api.ErrField)
	}
}

func TestWhichErrorOfAMessageCounts(t *testing.T) {
	turns := []struct {
		turn func(m *api.Message)
		e    api.Errno
	}{
		{func(m *api.Message) { m.Kind = 12 }, api.ErrKind},
		{func(m *api.Message) { m.Reason = "4021" }, api.ErrField},
		{func(m *api.Message) { m.Other = []api.Element{{No: 60, Data: []byte("x")}} }, api.ErrField},
		{func(m *api.Message) { m.Stan = -1 }, api.ErrArg},
		{func(m *api.Message) { m.Entry = 1_000 }, api.ErrArg},
		{func(m *api.Message) { m.Tags = make([]api.Tag, 21) }, api.ErrArg},
		{func(m *api.Message) { m.Tags = make([]api.Tag, 1) }, api.ErrArg},
		{func(m *api.Message) { m.Tags = []api.Tag{{Tag: 1, Data: make([]byte, 256)}} }, api.ErrArg},
		{func(m *api.Message) { m.Merchant = "\xff" }, api.ErrArg},
		{func(m *api.Message) { m.Merchant = " " }, api.ErrArg},
		{func(m *api.Message) { m.Extra = pairs(9) }, api.ErrArg},
		{func(m *api.Message) { m.Time = "" }, api.ErrArg},
		{func(m *api.Message) {
			m.Extra = pairs(8)
			for i := range m.Extra {
				m.Extra[i].Val = longest("&", 100)
			}
		}, api.ErrBig},
	}
	for i, x := range turns {
		for _, y := range turns[i:] {
			_, m := rich(api.AuthAsk)
			// The later one first: what it turns may be turned again by the other one.
			y.turn(&m)
			x.turn(&m)
			want := x.e
			if s, e := encoded(m); e != want || s != "" {
				t.Fatalf("fault %d: the chapter is told as error %d", i, e)
			}
			encodes(t, m, "", want)
		}
	}
}

func TestEncodeOfEveryKindThatIsNone(t *testing.T) {
	for _, kind := range []int{0, -1, 12, 13, 100, 256, 257, 1<<32 + 1, math.MinInt, math.MaxInt} {
		_, m := rich(api.AuthAsk)
		m.Kind = kind
		encodes(t, m, "", api.ErrKind)
		encodes(t, api.Message{Kind: kind}, "", api.ErrKind)
	}
	encodes(t, api.Message{}, "", api.ErrKind)
	encodes(t, api.Message{Kind: api.DiagAsk}, "", api.ErrArg)
}

func TestOthersCannotBeSaid(t *testing.T) {
	for kind := 1; kind <= 11; kind++ {
		s, m := rich(kind)
		m.Other = []api.Element{}
		both(t, m, s)
		for n := 1; n <= 9; n++ {
			m.Other = make([]api.Element, n)
			encodes(t, m, "", api.ErrField)
		}
	}
}

func TestEachPieceOfAFileOfEachKindLeftOut(t *testing.T) {
	found := map[api.Errno]int{}
	for kind := 1; kind <= 11; kind++ {
		s, _ := rich(kind)
		for _, name := range []string{"Hdr", "MsgFctn", "XchgId", "CreDtTm", "InitgPty", "Body", "PAN", "TtlAmt", "Ccy", "RRN", "MrchntId", "TermnlId", "NtryMd", "Rspn", "RspnRsn", "AuthstnCd", "Rsn", "OrgnlTx", "ICCData", "Note", "SplmtryData", "Nm", "Val", "RsdlKey"} {
			piece := regexp.MustCompile("(?s)<" + name + ">.*?</" + name + ">").FindString(s)
			if piece == "" {
				continue
			}
			found[asked(t, strings.Replace(s, piece, "", 1))]++
			found[asked(t, strings.Replace(s, piece, piece+piece, 1))]++
			found[asked(t, strings.Replace(s, piece, "<"+name+"/>", 1))]++
			found[asked(t, strings.Replace(s, piece, "<x"+name+"/>"+piece, 1))]++
		}
	}
	for _, e := range []api.Errno{api.OK, api.ErrModel, api.ErrType, api.ErrField} {
		if found[e] == 0 {
			t.Errorf("error %d never came", e)
		}
	}
}

func TestHead(t *testing.T) {
	h := headed("AUTX", "012", shown, "00099")
	want := api.Message{Stan: 12, Time: when, Acquirer: "00099"}
	for _, s := range []string{
		"<a>" + h + "</a>",
		"<a b='1' c='2'>" + h + "</a>",
		"<a>" + h + "<x><y/></x></a>",
		"<a>" + h + h + "</a>",
		"<a>" + h + headed("AUTQ", "1", since, "1") + "</a>",
		"<a>" + h + "<Body><XchgId>13</XchgId></Body></a>",
		"\n<a>\n" + h + "\r\t </a> ",
		"<Hdr>" + h + "</Hdr>",
		"<Document>" + h + "</Document>",
		filed(h, ""),
		filed(h, "<PAN>1</PAN>"),
		"<a>" + turned(t, h, "<Hdr>", "<Hdr a='1'>") + "</a>",
		"<a>" + turned(t, h, "<XchgId>", "<XchgId a='1' b=''>") + "</a>",
		"<a>" + turned(t, h, "<MsgFctn>", " <MsgFctn >") + "</a>",
		"<a>" + turned(t, h, "</XchgId>", "</XchgId>\n") + "</a>",
		"<a>" + turned(t, h, "AUTX", "ZZZZ") + "</a>",
		"<a>" + turned(t, h, "012", "000012") + "</a>",
		"<a>" + turned(t, h, "012", "12") + "</a>",
	} {
		heads(t, s, want, true)
		if m, is := leading(s); !is || !same(m, want) {
			t.Errorf("the chapter is told as %+v, %v of %s", m, is, s)
		}
	}
	for _, s := range []string{
		"", " ", "x", "<", "<a/>", "<a></a>", "<a>x</a>", h,
		"<a>" + h, h + "</a>", "<a>" + h + "</b>", "<a>" + h + "x</a>", "<a>" + h + "</a>x", "<a>" + h + "</a><a/>", "<a>" + h + "&</a>", "<a>" + h + "<b></a>",
		"<a>x" + h + "</a>",
		"<a><x/>" + h + "</a>",
		"<a><b>" + h + "</b></a>",
		"<a><Hdr/>" + h + "</a>",
		"<a>" + strings.ReplaceAll(h, "Hdr", "Hdx") + "</a>",
		"<a>" + strings.ReplaceAll(h, "Hdr", "hdr") + "</a>",
		"<a><Hdr>" + strings.TrimSuffix(strings.TrimPrefix(h, "<Hdr>"), "</Hdr>") + "<z/></Hdr></a>",
		"<a>" + turned(t, h, "<Hdr>", "<Hdr><z/>") + "</a>",
		"<a>" + turned(t, h, "<Hdr>", "<Hdr>z") + "</a>",
		"<a>" + strings.ReplaceAll(h, "MsgFctn", "MsgFctN") + "</a>",
		"<a>" + strings.ReplaceAll(h, "XchgId", "InitgPty") + "</a>",
		"<a>" + strings.ReplaceAll(h, "CreDtTm", "CreDt") + "</a>",
		"<a>" + strings.ReplaceAll(h, "InitgPty", "XchgId") + "</a>",
		"<a>" + turned(t, h, "<MsgFctn>AUTX</MsgFctn>", "") + "</a>",
		"<a>" + turned(t, h, "<XchgId>012</XchgId>", "") + "</a>",
		"<a>" + turned(t, h, "<CreDtTm>"+shown+"</CreDtTm>", "") + "</a>",
		"<a>" + turned(t, h, "<InitgPty>00099</InitgPty>", "") + "</a>",
		"<a>" + turned(t, h, "<InitgPty>00099</InitgPty>", "<InitgPty>00099</InitgPty><InitgPty>00099</InitgPty>") + "</a>",
		"<a>" + turned(t, h, "<MsgFctn>AUTX</MsgFctn><XchgId>012</XchgId>", "<XchgId>012</XchgId><MsgFctn>AUTX</MsgFctn>") + "</a>",
		"<a>" + turned(t, h, "00099</InitgPty>", "00099<q/></InitgPty>") + "</a>",
		"<a>" + turned(t, h, "00099</InitgPty>", "<q/></InitgPty>") + "</a>",
		"<a>" + turned(t, h, "AUTX", "AUT") + "</a>",
		"<a>" + turned(t, h, "AUTX", "AUTx") + "</a>",
		"<a>" + turned(t, h, "AUTX", "") + "</a>",
		"<a>" + turned(t, h, "012", "") + "</a>",
		"<a>" + turned(t, h, "012", "0000012") + "</a>",
		"<a>" + turned(t, h, "012", " 12") + "</a>",
		"<a>" + turned(t, h, shown, when) + "</a>",
		"<a>" + turned(t, h, shown, "2026-13-02T03:04:05") + "</a>",
		"<a>" + turned(t, h, "00099", "") + "</a>",
		"<a>" + turned(t, h, "00099", "123456789012") + "</a>",
		"<a>" + turned(t, h, "00099", "1a") + "</a>",
		"<a>" + h + strings.Repeat(" ", 4_097-7-len(h)) + "</a>",
	} {
		heads(t, s, api.Message{}, false)
		if m, is := leading(s); is && !strings.Contains(s, "<q/>") {
			t.Errorf("the chapter is told as %+v of %s", m, s)
		}
	}
	heads(t, "<a>"+h+strings.Repeat(" ", 4_096-7-len(h))+"</a>", want, true)
}

func TestHeadOfFilesThatCannotBeDecoded(t *testing.T) {
	s, m := rich(api.CompAsk)
	want := api.Message{Stan: m.Stan, Time: m.Time, Acquirer: m.Acquirer}
	for _, x := range []fault{
		{"CMPV", "CMPX", api.ErrKind},
		{"urn:", "URN:", api.ErrModel},
		{"<PAN>", "<PAN a=''>", api.ErrModel},
		{"12.05", "x", api.ErrType},
		{"<Ccy>978</Ccy>", "", api.ErrField},
		{"51", "0", api.ErrField},
		{"INSF", "AAAA", api.ErrCode},
		{"<Body>", "<Body/><Body>", api.ErrModel},
	} {
		file := turned(t, s, x.old, x.put)
		decodes(t, file, api.Message{}, x.e)
		heads(t, file, want, true)
	}
}

// chooser makes messages by chance.
type chooser struct{ *rand.Rand }

// one is one of l.
func (r chooser) one(l ...string) string {
	return l[r.Intn(len(l))]
}

// signs are from low to top of those.
func (r chooser) signs(of string, low, top int) string {
	all := []rune(of)
	var out []rune
	for range low + r.Intn(top-low+1) {
		out = append(out, all[r.Intn(len(all))])
	}
	return string(out)
}

const (
	decimals = "0123456789"
	alnums   = decimals + "ABCXYZabcxyz"
	anything = `aZ09&<>"'é€😀;/!-`
)

// words are a text of at most top characters that may stand in a message.
func (r chooser) words(top int) string {
	s := r.signs(anything, 1, top)
	if n := len([]rune(s)); n > 2 && r.Intn(2) == 0 {
		x := []rune(s)
		x[1+r.Intn(n-2)] = ' '
		s = string(x)
	}
	return s
}

// time is one.
func (r chooser) time() string {
	return fmt.Sprintf("%04d%02d%02d%02d%02d%02d", 1+r.Intn(9_999), 1+r.Intn(12), 1+r.Intn(28), r.Intn(24), r.Intn(60), r.Intn(60))
}

// message is one that may be encoded, of whatever kind.
func (r chooser) message() api.Message {
	_, m := rich(1 + r.Intn(11))
	m.Stan, m.Time, m.Acquirer = r.Intn(1_000_000), r.time(), r.signs(decimals, 1, 11)
	// What the kind must have stays, whatever it is; of the rest some is left out.
	for _, x := range []struct {
		at   *string
		make func() string
	}{
		{&m.Pan, func() string { return r.signs(decimals, 12, 19) }},
		{&m.Currency, func() string { return r.signs(decimals, 3, 3) }},
		{&m.Rrn, func() string { return r.signs(alnums, 12, 12) }},
		{&m.Merchant, func() string { return r.words(35) }},
		{&m.Terminal, func() string { return r.words(35) }},
		{&m.Approval, func() string { return r.signs(alnums, 6, 6) }},
		{&m.Action, func() string { return r.one(codes.All()...) }},
		{&m.Reason, func() string { return r.signs(decimals, 4, 4) }},
		{&m.Note, func() string { return r.words(40) }},
		{&m.Key, func() string { return r.signs("0123456789ABCDEF", 8, 8) }},
	} {
		was := *x.at
		if was != "" {
			*x.at = x.make()
		}
		if amount := m.Amount; r.Intn(3) == 0 {
			kept := *x.at
			*x.at = ""
			if m.Currency == "" {
				m.Amount = 0
			}
			if kinds.Fits(m) != api.OK {
				*x.at, m.Amount = kept, amount
			}
		}
	}
	if m.Currency != "" {
		m.Amount = uint64(r.Int63n(1_000_000_000_000)) >> r.Intn(40)
	}
	if m.Entry > 0 {
		m.Entry = r.Intn(1_000)
	}
	if m.Origin.Time != "" {
		m.Origin = api.Origin{Stan: r.Intn(1_000_000), Time: r.time()}
	}
	m.Tags = m.Tags[:min(len(m.Tags), r.Intn(3))]
	for i := range m.Tags {
		m.Tags[i].Data = []byte(r.signs(alnums, 0, 9))
	}
	m.Extra = nil
	for range max(0, r.Intn(12)-3) {
		m.Extra = append(m.Extra, api.Pair{Key: r.words(20), Val: r.words(30)})
	}
	return m
}

func TestWhatIsEncodedIsDecoded(t *testing.T) {
	r := chooser{rand.New(rand.NewSource(15))}
	found := map[api.Errno]int{}
	for range 2_000 {
		m := r.message()
		s, e := encoded(m)
		found[e]++
		if e == api.OK {
			both(t, m, s)
			continue
		}
		encodes(t, m, "", e)
	}
	if found[api.OK] < 1_700 {
		t.Errorf("%v", found)
	}
}

// turn turns something of m.
func (r chooser) turn(m *api.Message) {
	odd := r.one("", " ", "x", "0", "\xff", "1 2", "é", "123456", "1234", "000", "ABCDEF0123456789", longest("7", 41))
	number := []int{0, -1, 1, 999, 1_000, 999_999, 1_000_000, math.MinInt, math.MaxInt}[r.Intn(9)]
	texts := []*string{&m.Time, &m.Acquirer, &m.Pan, &m.Currency, &m.Rrn, &m.Merchant, &m.Terminal, &m.Approval, &m.Action, &m.Reason, &m.Origin.Time, &m.Key, &m.Note}
	switch n := r.Intn(len(texts) + 9); n {
	case 0:
		m.Stan = number
	case 1:
		m.Entry = number
	case 2:
		m.Origin.Stan = number
	case 3:
		m.Amount = uint64(number)
	case 4:
		m.Kind = r.Intn(14) - 1
	case 5:
		m.Tags = append(m.Tags, api.Tag{Tag: []int{0, 1, 1, 2, 0x95, 255}[r.Intn(6)], Data: make([]byte, r.Intn(280))})
	case 6:
		m.Extra = append(m.Extra, api.Pair{Key: r.one("", "a", "é b"), Val: r.one("a", "b", " ")})
	case 7:
		m.Extra = append(m.Extra, pairs(r.Intn(8))...)
	case 8:
		m.Other = make([]api.Element, r.Intn(2))
	default:
		*texts[n-9] = odd
	}
}

func TestChanceMessagesWithSomeTurned(t *testing.T) {
	r := chooser{rand.New(rand.NewSource(16))}
	found := map[api.Errno]int{}
	for range 8_000 {
		m := r.message()
		for range 1 + r.Intn(2) {
			r.turn(&m)
		}
		s, e := encoded(m)
		encodes(t, m, s, e)
		found[e]++
		if e == api.OK {
			decodes(t, s, m, api.OK)
		}
	}
	for _, e := range []api.Errno{api.OK, api.ErrKind, api.ErrField, api.ErrArg} {
		if found[e] < 100 {
			t.Errorf("error %d came %d times alone", e, found[e])
		}
	}
}

func TestChanceFilesWithSomeTurned(t *testing.T) {
	r := chooser{rand.New(rand.NewSource(17))}
	found := map[api.Errno]int{}
	tags := regexp.MustCompile(`<[^<>]*>[^<>]*`)
	for range 5_000 {
		s := composed(r.message())
		pieces := tags.FindAllString(s, -1)
		at := r.Intn(len(pieces))
		switch r.Intn(8) {
		case 0:
			pieces[at] = ""
		case 1:
			pieces[at] += pieces[r.Intn(len(pieces))]
		case 2:
			k := r.Intn(len(pieces))
			pieces[at], pieces[k] = pieces[k], pieces[at]
		case 3:
			pieces[at] += r.one(" ", "\n", "x", "<x/>", "&", "0", "00")
		case 4:
			head, _, _ := strings.Cut(pieces[at], ">")
			pieces[at] = head + ">" + r.one("", "0", "000", "AUTQ", "RJCT", "APPR", "NORM", "9500", "0.00", "978", "x", "12")
		case 5:
			b := []byte(pieces[at])
			b[r.Intn(len(b))] ^= 1 << r.Intn(8)
			pieces[at] = string(b)
		case 6:
			// An element with all that it has, out of another file.
			if other := tags.FindAllString(composed(r.message()), -1); len(other) > 12 && len(pieces) > 12 {
				pieces = slices.Concat(pieces[:12], other[12:])
			}
		case 7:
			for i, x := range pieces {
				if strings.HasPrefix(x, "<ICCData>") || strings.HasPrefix(x, "<RspnRsn>") {
					pieces[i] = x[:9] + r.one("9501", "010001", "0100", "NORM", "IDEN", "AAAA")
				}
			}
		}
		found[asked(t, strings.Join(pieces, ""))]++
	}
	for _, e := range []api.Errno{api.OK, api.ErrToken, api.ErrTree, api.ErrModel, api.ErrType, api.ErrKind, api.ErrField, api.ErrCode, api.ErrTag} {
		if found[e] < 5 {
			t.Errorf("error %d came %d times alone", e, found[e])
		}
	}
}

func TestEachCutOfAFile(t *testing.T) {
	for kind := 1; kind <= 11; kind++ {
		s, _ := rich(kind)
		for n := range len(s) {
			if m, e := atica.Decode(s[:n]); e == api.OK || !same(m, api.Message{}) {
				t.Errorf("Decode of %d bytes: %+v, error %d", n, m, e)
			}
			heads(t, s[:n], api.Message{}, false)
		}
	}
}

func TestChanceBytes(t *testing.T) {
	r := chooser{rand.New(rand.NewSource(18))}
	for range 20_000 {
		b := make([]byte, r.Intn(24))
		r.Read(b)
		asked(t, string(b))
	}
}

func TestEncodeLeavesWhatItIsGiven(t *testing.T) {
	_, m := rich(api.AuthAsk)
	data := []byte{1, 2, 3, 4}
	tags := []api.Tag{{Tag: 1, Data: data[:2]}, {Tag: 2, Data: data[1:1]}, {Tag: 99}}
	extra := []api.Pair{{Key: "a", Val: "b"}, {Key: "c", Val: "d"}, {Key: "behind"}}
	m.Tags, m.Extra = tags[:2], extra[:2]
	for _, stan := range []int{7, -1} {
		m.Stan = stan
		was := fmt.Sprintf("%#v%v%v%v", m, data, tags, extra)
		atica.Encode(m)
		if now := fmt.Sprintf("%#v%v%v%v", m, data, tags, extra); now != was {
			t.Errorf("Encode wrote into what it was given, or behind it: %s; it was %s", now, was)
		}
	}
}

func TestDecodeTellsNewMemory(t *testing.T) {
	s, want := rich(api.AuthAsk)
	got, _ := atica.Decode(s)
	other, _ := atica.Decode(s)
	for i := range got.Tags {
		room := got.Tags[i].Data[:cap(got.Tags[i].Data)]
		for k := range room {
			room[k] ^= 255
		}
		got.Tags[i].Tag = -1
		if !same(api.Message{Tags: got.Tags[i+1:]}, api.Message{Tags: want.Tags[i+1:]}) {
			t.Errorf("data of the tag %d lies within that of another one", i)
		}
	}
	for i := range got.Extra {
		got.Extra[i] = api.Pair{}
	}
	_, _ = append(got.Tags, api.Tag{Tag: 9}), append(got.Extra, api.Pair{Key: "x"})
	if !same(other, want) {
		t.Errorf("what was told is what is told another time: %+v", other)
	}
}

func TestCallsHangOnTheirArgumentsAlone(t *testing.T) {
	ask := func() {
		for kind := 1; kind <= 11; kind++ {
			s, m := rich(kind)
			atica.Decode("<a/>")
			atica.Encode(api.Message{Kind: api.Reject, Reason: "x", Extra: pairs(9)})
			atica.Head("<Hdr/>")
			both(t, m, s)
			decodes(t, strings.Replace(s, "</Body>", "", 1), api.Message{}, api.ErrTree)
		}
	}
	ask()
	var wait sync.WaitGroup
	for range 8 {
		wait.Go(ask)
	}
	wait.Wait()
}
