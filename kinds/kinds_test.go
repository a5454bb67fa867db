package kinds_test

import (
	"math"
	"reflect"
	"slices"
	"strconv"
	"strings"
	"testing"

	"comptoir/api"
	"comptoir/kinds"
)

// chapter is the table as the chapter has it.
const chapter = `
| AuthAsk | AUTQ | 2100 | Pan, Currency, Terminal, Merchant | Rrn, Entry, Tags |
| AuthTell | AUTP | 2110 | Action | Pan, Currency, Rrn, Approval, Tags |
| CompAsk | CMPV | 2220 | Pan, Currency, Terminal, Merchant | Rrn, Entry, Approval, Origin, Action |
| CompTell | CMPK | 2230 | Action | Rrn |
| RevAsk | RVRA | 2420 | Pan, Currency, Origin, Reason | Rrn, Terminal, Merchant |
| RevTell | RVRR | 2430 | Action | Rrn |
| RecAsk | RCLQ | 2520 | Currency | |
| RecTell | RCLP | 2530 | Action | Currency |
| DiagAsk | DGNQ | 2800 | | |
| DiagTell | DGNP | 2810 | Action | |
| Reject | RJCT | 2644 | Reason | |
`

// asked is what a kind is asked for, in the order of the chapter.
const asked = "Pan, Currency, Rrn, Merchant, Terminal, Approval, Entry, Action, Reason, Origin, Tags"

// row is a row of the table.
type row struct {
	name, code, mti string
	kind            int
	must, may       []string
}

// numbers are the kinds by their names.
func numbers() map[string]int {
	return map[string]int{"AuthAsk": 1, "AuthTell": 2, "CompAsk": 3, "CompTell": 4, "RevAsk": 5, "RevTell": 6, "RecAsk": 7, "RecTell": 8, "DiagAsk": 9, "DiagTell": 10, "Reject": 11}
}

// list is the names of a cell.
func list(cell string) []string {
	if cell == "" {
		return nil
	}
	return strings.Split(cell, ", ")
}

// rows reads the chapter's table.
func rows(t *testing.T) []row {
	t.Helper()
	var out []row
	for _, line := range strings.Split(strings.TrimSpace(chapter), "\n") {
		cells := strings.Split(line, "|")
		for i := range cells {
			cells[i] = strings.TrimSpace(cells[i])
		}
		r := row{name: cells[1], code: cells[2], mti: cells[3], kind: numbers()[cells[1]], must: list(cells[4]), may: list(cells[5])}
		for _, part := range slices.Concat(r.must, r.may) {
			if !slices.Contains(list(asked), part) {
				t.Fatalf("%s: no part has the name %q", r.name, part)
			}
		}
		out = append(out, r)
	}
	if len(out) != 11 {
		t.Fatalf("%d rows", len(out))
	}
	return out
}

// nones are numbers that are no kinds, near to those that are, and far from them.
func nones() []int {
	out := []int{0, 12, 13, -1, -2, -10, -11, -12, 22, 100, 127, 128, 255, 256, 2_100, 2_110, 65_535, 65_536, math.MaxInt32, math.MinInt32, math.MaxInt - 1, math.MaxInt, math.MinInt, math.MinInt + 1}
	for kind := range 12 {
		// Their lowest bits are those of a kind.
		out = append(out, kind+1<<8, kind+1<<16, kind+1<<32, math.MinInt+kind, kind-1<<8)
	}
	return out
}

// give lays a part into m.
func give(m *api.Message, part string) {
	switch part {
	case "Pan":
		m.Pan = "4000000000000002"
	case "Currency":
		m.Currency = "978"
	case "Rrn":
		m.Rrn = "123456789012"
	case "Merchant":
		m.Merchant = "shop"
	case "Terminal":
		m.Terminal = "till 1"
	case "Approval":
		m.Approval = "A1B2C3"
	case "Entry":
		m.Entry = 51
	case "Action":
		m.Action = "000"
	case "Reason":
		m.Reason = "4021"
	case "Origin":
		m.Origin = api.Origin{Stan: 7, Time: "20260102030405"}
	case "Tags":
		m.Tags = []api.Tag{{Tag: 0x9f26, Data: []byte{1, 2}}}
	default:
		panic(part)
	}
}

// of is a message of a kind with these parts alone.
func of(kind int, parts ...string) api.Message {
	m := api.Message{Kind: kind}
	for _, part := range parts {
		give(&m, part)
	}
	return m
}

// sets are all sets of parts.
func sets() [][]string {
	out := [][]string{nil}
	for _, part := range list(asked) {
		for _, s := range slices.Clone(out) {
			out = append(out, append(slices.Clone(s), part))
		}
	}
	return out
}

// without is the parts but one.
func without(parts []string, part string) []string {
	return slices.DeleteFunc(slices.Clone(parts), func(s string) bool { return s == part })
}

// subset tells whether all of l are among those of more.
func subset(l, more []string) bool {
	return !slices.ContainsFunc(l, func(s string) bool { return !slices.Contains(more, s) })
}

// wants is what the chapter tells of a message of the row with these parts.
func wants(r row, parts []string) api.Errno {
	if subset(r.must, parts) && subset(parts, slices.Concat(r.must, r.may)) {
		return api.OK
	}
	return api.ErrField
}

// fits fails unless Fits tells want of m.
func fits(t *testing.T, m api.Message, want api.Errno) {
	t.Helper()
	if e := kinds.Fits(m); e != want {
		t.Errorf("Fits(%#v): error %d; want %d", m, e, want)
	}
}

func TestTheChaptersExample(t *testing.T) {
	if s := kinds.Code(api.AuthAsk); s != "AUTQ" {
		t.Errorf("Code(AuthAsk): %q", s)
	}
}

func TestCodesAndNumbersOfEachKind(t *testing.T) {
	for _, r := range rows(t) {
		if s := kinds.Code(r.kind); s != r.code {
			t.Errorf("Code(%s): %q; want %q", r.name, s, r.code)
		}
		if s := kinds.Mti(r.kind); s != r.mti {
			t.Errorf("Mti(%s): %q; want %q", r.name, s, r.mti)
		}
		if k := kinds.OfCode(r.code); k != r.kind {
			t.Errorf("OfCode(%q): %d; want %d", r.code, k, r.kind)
		}
		if k := kinds.OfMti(r.mti); k != r.kind {
			t.Errorf("OfMti(%q): %d; want %d", r.mti, k, r.kind)
		}
	}
}

func TestKindsHaveTheNumbersOfPackageApi(t *testing.T) {
	all := []int{api.AuthAsk, api.AuthTell, api.CompAsk, api.CompTell, api.RevAsk, api.RevTell, api.RecAsk, api.RecTell, api.DiagAsk, api.DiagTell, api.Reject}
	for i, r := range rows(t) {
		if r.kind != all[i] {
			t.Errorf("%s: %d; want %d", r.name, r.kind, all[i])
		}
	}
}

func TestEachKindHasACodeAndANumberOfItsOwn(t *testing.T) {
	seen := map[string]int{}
	for kind := 1; kind <= 11; kind++ {
		code, mti := kinds.Code(kind), kinds.Mti(kind)
		if len(code) != 4 || strings.Trim(code, "ABCDEFGHIJKLMNOPQRSTUVWXYZ") != "" || len(mti) != 4 || strings.Trim(mti, "0123456789") != "" {
			t.Errorf("kind %d: %q, %q", kind, code, mti)
		}
		for _, s := range []string{code, mti} {
			if other := seen[s]; other != 0 {
				t.Errorf("%q is of %d, and of %d", s, other, kind)
			}
			seen[s] = kind
		}
	}
}

func TestNoneHasACodeOrANumber(t *testing.T) {
	for _, kind := range nones() {
		if code, mti := kinds.Code(kind), kinds.Mti(kind); code != "" || mti != "" {
			t.Errorf("kind %d: %q, %q", kind, code, mti)
		}
	}
}

// finds fails unless the calls tell of s the kind that the chapter has, if it has one.
func finds(t *testing.T, s string, codes, mtis map[string]int) {
	t.Helper()
	if k := kinds.OfCode(s); k != codes[s] {
		t.Errorf("OfCode(%+q): %d; want %d", s, k, codes[s])
	}
	if k := kinds.OfMti(s); k != mtis[s] {
		t.Errorf("OfMti(%+q): %d; want %d", s, k, mtis[s])
	}
}

// maps are the kinds by their codes, and by their numbers.
func maps(t *testing.T) (map[string]int, map[string]int) {
	t.Helper()
	codes, mtis := map[string]int{}, map[string]int{}
	for _, r := range rows(t) {
		codes[r.code], mtis[r.mti] = r.kind, r.kind
	}
	return codes, mtis
}

func TestOfAllRowsOfFourCapitals(t *testing.T) {
	codes, mtis := maps(t)
	found := 0
	s := []byte("AAAA")
	for n := range 26 * 26 * 26 * 26 {
		for i := range s {
			s[i] = 'A' + byte(n%26)
			n /= 26
		}
		finds(t, string(s), codes, mtis)
		if kinds.OfCode(string(s)) != 0 {
			found++
		}
	}
	if found != 11 {
		t.Errorf("%d codes are known", found)
	}
}

func TestOfAllNumbersOfDigits(t *testing.T) {
	codes, mtis := maps(t)
	found := 0
	for n := range 10_000 {
		s := strconv.Itoa(10_000 + n)[1:]
		finds(t, s, codes, mtis)
		if kinds.OfMti(s) != 0 {
			found++
		}
		finds(t, strconv.Itoa(n), codes, mtis)
		finds(t, strconv.Itoa(10_000+n), codes, mtis)
		finds(t, "0"+s, codes, mtis)
		finds(t, s+"0", codes, mtis)
	}
	if found != 11 {
		t.Errorf("%d numbers are known", found)
	}
}

// cases are all ways to write the letters of s, capital and small.
func cases(s string) []string {
	out := []string{""}
	for i := range len(s) {
		var longer []string
		for _, ahead := range out {
			longer = append(longer, ahead+strings.ToUpper(s[i:i+1]), ahead+strings.ToLower(s[i:i+1]))
		}
		out = longer
	}
	return out
}

// signs are all bytes, and some characters of more than one.
func signs() []string {
	out := []string{"Ａ", "А", "２", "٢", "é", "\u00a0", "\ufeff", "😀"}
	for x := range 256 {
		out = append(out, string([]byte{byte(x)}))
	}
	return out
}

// near are texts with a sign turned, one more, one less, or another case.
func near(s string) []string {
	out := append(cases(s), s+s, s+" "+s, " "+s+" ", `"`+s+`"`, "0x"+s)
	for i := range len(s) + 1 {
		out = append(out, s[:i], s[i:])
		for _, x := range signs() {
			out = append(out, s[:i]+x+s[i:])
			if i < len(s) {
				out = append(out, s[:i]+x+s[i+1:])
			}
		}
		for k := i; k < len(s); k++ {
			swapped := []byte(s)
			swapped[i], swapped[k] = swapped[k], swapped[i]
			out = append(out, string(swapped), s[:i]+s[k+1:])
		}
	}
	return out
}

func TestTextsThatAreNearToOne(t *testing.T) {
	codes, mtis := maps(t)
	for _, r := range rows(t) {
		for _, s := range slices.Concat(near(r.code), near(r.mti)) {
			finds(t, s, codes, mtis)
		}
		for _, s := range []string{r.name, strconv.Itoa(r.kind), r.code + r.mti, r.mti + r.code, r.code + "|" + r.mti, strings.Repeat(r.code, 1_000), strings.Repeat(r.mti, 1_000)} {
			finds(t, s, codes, mtis)
		}
	}
	for _, s := range []string{"", " ", "\x00", "\xff", "0", "2101", "0100", "0200", "0800", "21 0", "2643", "2645", "2600", "AUTP ", "RJCU", "Document"} {
		finds(t, s, codes, mtis)
	}
}

func TestACodeIsNoNumberAndBack(t *testing.T) {
	for _, r := range rows(t) {
		if k := kinds.OfCode(r.mti); k != 0 {
			t.Errorf("OfCode(%q): %d", r.mti, k)
		}
		if k := kinds.OfMti(r.code); k != 0 {
			t.Errorf("OfMti(%q): %d", r.code, k)
		}
	}
}

func TestAnswer(t *testing.T) {
	for _, r := range []struct{ kind, want int }{
		{api.AuthAsk, api.AuthTell}, {api.CompAsk, api.CompTell}, {api.RevAsk, api.RevTell}, {api.RecAsk, api.RecTell}, {api.DiagAsk, api.DiagTell},
		{api.AuthTell, 0}, {api.CompTell, 0}, {api.RevTell, 0}, {api.RecTell, 0}, {api.DiagTell, 0}, {api.Reject, 0},
	} {
		if k := kinds.Answer(r.kind); k != r.want {
			t.Errorf("Answer(%d): %d; want %d", r.kind, k, r.want)
		}
	}
	for _, kind := range nones() {
		if k := kinds.Answer(kind); k != 0 {
			t.Errorf("Answer(%d): %d", kind, k)
		}
	}
}

func TestAnswerIsTheTellOfTheSameName(t *testing.T) {
	for _, r := range rows(t) {
		want := 0
		if name, ok := strings.CutSuffix(r.name, "Ask"); ok {
			want = numbers()[name+"Tell"]
		}
		if k := kinds.Answer(r.kind); k != want {
			t.Errorf("Answer(%s): %d; want %d", r.name, k, want)
		}
	}
}

func TestMoney(t *testing.T) {
	for kind, want := range []bool{1: true, 3: true, 11: false} {
		if got := kinds.Money(kind); got != want {
			t.Errorf("Money(%d): %v", kind, got)
		}
	}
	for _, kind := range nones() {
		if kinds.Money(kind) {
			t.Errorf("Money(%d): true", kind)
		}
	}
}

func TestFitsWithJustWhatItMustHave(t *testing.T) {
	for _, r := range rows(t) {
		fits(t, of(r.kind, r.must...), api.OK)
		fits(t, of(r.kind, slices.Concat(r.must, r.may)...), api.OK)
		for _, part := range r.may {
			fits(t, of(r.kind, append(slices.Clone(r.must), part)...), api.OK)
			fits(t, of(r.kind, without(slices.Concat(r.must, r.may), part)...), api.OK)
		}
	}
}

func TestFitsWithoutAThingThatItMustHave(t *testing.T) {
	for _, r := range rows(t) {
		for _, part := range r.must {
			fits(t, of(r.kind, without(r.must, part)...), api.ErrField)
			fits(t, of(r.kind, without(slices.Concat(r.must, r.may), part)...), api.ErrField)
		}
	}
}

func TestFitsWithAThingThatItMayNotHave(t *testing.T) {
	for _, r := range rows(t) {
		all := slices.Concat(r.must, r.may)
		for _, part := range list(asked) {
			if !slices.Contains(all, part) {
				fits(t, of(r.kind, append(slices.Clone(r.must), part)...), api.ErrField)
				fits(t, of(r.kind, append(slices.Clone(all), part)...), api.ErrField)
			}
		}
	}
}

func TestFitsOfEverySetOfParts(t *testing.T) {
	all := sets()
	if len(all) != 1<<11 {
		t.Fatalf("%d sets", len(all))
	}
	for _, r := range rows(t) {
		let := 0
		for _, parts := range all {
			fits(t, of(r.kind, parts...), wants(r, parts))
			if kinds.Fits(of(r.kind, parts...)) == api.OK {
				let++
			}
		}
		if want := 1 << len(r.may); let != want {
			t.Errorf("%s: %d sets are let; want %d", r.name, let, want)
		}
	}
}

func TestFitsOfNoKind(t *testing.T) {
	wrong := api.Message{Amount: 5, Origin: api.Origin{Stan: 3}, Note: "n"}
	for _, kind := range nones() {
		fits(t, of(kind), api.ErrKind)
		wrong.Kind = kind
		fits(t, wrong, api.ErrKind)
	}
	for _, kind := range []int{0, 12, -1, math.MaxInt, math.MinInt} {
		// Whatever else is right, or wrong: this error counts.
		for _, parts := range sets() {
			fits(t, of(kind, parts...), api.ErrKind)
			m := of(kind, parts...)
			m.Amount, m.Origin.Stan = 1, 1
			fits(t, m, api.ErrKind)
		}
	}
	fits(t, api.Message{}, api.ErrKind)
}

// texts lays each of some texts, right ones and wrong ones, into m, by the field that is told.
func texts(field func(*api.Message) *string) []func(*api.Message) {
	var out []func(*api.Message)
	for _, s := range []string{" ", "0", "x", "\x00", "\xff", "\n", "é", strings.Repeat("9", 1_000)} {
		out = append(out, func(m *api.Message) { *field(m) = s })
	}
	return out
}

// entries lays numbers, other than 0, into m.
func entries() []func(*api.Message) {
	var out []func(*api.Message)
	for _, n := range []int{-1, 1, 999, 1_000, 256, 1 << 32, math.MaxInt, math.MinInt} {
		out = append(out, func(m *api.Message) { m.Entry = n })
	}
	return out
}

// tagged lays lists of tags, right ones and wrong ones, into m.
func tagged() []func(*api.Message) {
	var out []func(*api.Message)
	for _, l := range [][]api.Tag{{{}}, {{}, {}}, {{Tag: -1}}, make([]api.Tag, 100)} {
		out = append(out, func(m *api.Message) { m.Tags = l })
	}
	return out
}

// origins lays origins with a time into m.
func origins() []func(*api.Message) {
	out := texts(func(m *api.Message) *string { return &m.Origin.Time })
	for _, n := range []int{-1, 0, 1, 1 << 32, math.MaxInt, math.MinInt} {
		out = append(out, func(m *api.Message) { m.Origin = api.Origin{Stan: n, Time: "x"} })
	}
	return out
}

// ways are those in which a part may be there, by its name.
func ways() map[string][]func(*api.Message) {
	return map[string][]func(*api.Message){
		"Pan":      texts(func(m *api.Message) *string { return &m.Pan }),
		"Currency": texts(func(m *api.Message) *string { return &m.Currency }),
		"Rrn":      texts(func(m *api.Message) *string { return &m.Rrn }),
		"Merchant": texts(func(m *api.Message) *string { return &m.Merchant }),
		"Terminal": texts(func(m *api.Message) *string { return &m.Terminal }),
		"Approval": texts(func(m *api.Message) *string { return &m.Approval }),
		"Action":   texts(func(m *api.Message) *string { return &m.Action }),
		"Reason":   texts(func(m *api.Message) *string { return &m.Reason }),
		"Origin":   origins(),
		"Entry":    entries(),
		"Tags":     tagged(),
	}
}

func TestAPartIsThereWhateverItIs(t *testing.T) {
	for _, r := range rows(t) {
		for _, part := range list(asked) {
			lays := ways()[part]
			if len(lays) < 2 {
				t.Fatalf("%s is laid in %d ways", part, len(lays))
			}
			parts := without(r.must, part)
			want := wants(r, append(slices.Clone(parts), part))
			for _, lay := range lays {
				m := of(r.kind, parts...)
				lay(&m)
				fits(t, m, want)
			}
		}
	}
}

func TestAnEmptyListOfTagsIsNone(t *testing.T) {
	for _, r := range rows(t) {
		for _, l := range [][]api.Tag{nil, {}, make([]api.Tag, 0, 8), []api.Tag{{Tag: 0x95}}[:0]} {
			m := of(r.kind, r.must...)
			m.Tags = l
			fits(t, m, api.OK)
		}
	}
}

// amounts are such as may be, and greater ones, which play no part here.
func amounts() []uint64 {
	return []uint64{1, 2, 100, api.MaxAmount, api.MaxAmount + 1, 1 << 32, 1 << 63, math.MaxUint64}
}

func TestAnAmountWithItsCurrency(t *testing.T) {
	for _, r := range rows(t) {
		for _, parts := range sets() {
			m := of(r.kind, parts...)
			fits(t, m, wants(r, parts))
			for _, v := range amounts() {
				m.Amount = v
				want := wants(r, parts)
				if !slices.Contains(parts, "Currency") {
					want = api.ErrField
				}
				fits(t, m, want)
			}
		}
	}
}

func TestAnAmountWithoutACurrency(t *testing.T) {
	may := 0
	for _, r := range rows(t) {
		if slices.Contains(r.must, "Currency") {
			continue
		}
		may++
		fits(t, of(r.kind, r.must...), api.OK)
		for _, v := range amounts() {
			m := of(r.kind, r.must...)
			m.Amount = v
			fits(t, m, api.ErrField)
		}
	}
	// All but AuthAsk, CompAsk, RevAsk and RecAsk.
	if may != 7 {
		t.Errorf("%d kinds need no currency", may)
	}
	// A currency needs no amount beside it; how great that is plays no part.
	fits(t, api.Message{Kind: api.RecAsk, Currency: "978"}, api.OK)
	fits(t, api.Message{Kind: api.RecAsk, Currency: "978", Amount: math.MaxUint64}, api.OK)
	fits(t, api.Message{Kind: api.RecTell, Action: "500", Currency: "978", Amount: 5}, api.OK)
	fits(t, api.Message{Kind: api.RecTell, Action: "500", Amount: 5}, api.ErrField)
	fits(t, api.Message{Kind: api.RecTell, Action: "500"}, api.OK)
}

func TestAnOriginsStanWithoutItsTime(t *testing.T) {
	for _, r := range rows(t) {
		for _, parts := range sets() {
			if slices.Contains(parts, "Origin") {
				continue
			}
			for _, n := range []int{-1, 1, 999_999, 1 << 32, math.MaxInt, math.MinInt} {
				m := of(r.kind, parts...)
				m.Origin.Stan = n
				fits(t, m, api.ErrField)
			}
		}
	}
	m := of(api.CompAsk, "Pan", "Currency", "Terminal", "Merchant")
	fits(t, m, api.OK)
	m.Origin = api.Origin{Time: "x"}
	fits(t, m, api.OK)
	m.Origin = api.Origin{Stan: 1}
	fits(t, m, api.ErrField)
}

func TestWhatPlaysNoPart(t *testing.T) {
	plays := []func(*api.Message){
		func(m *api.Message) { m.Stan = -1 },
		func(m *api.Message) { m.Stan = math.MaxInt },
		func(m *api.Message) { m.Time = "20260102030405" },
		func(m *api.Message) { m.Time = "\xff" },
		func(m *api.Message) { m.Acquirer = "123" },
		func(m *api.Message) { m.Key = "0000002A" },
		func(m *api.Message) { m.Key = "no key" },
		func(m *api.Message) { m.Note = "n" },
		func(m *api.Message) { m.Extra = []api.Pair{{Key: "k", Val: "v"}} },
		func(m *api.Message) { m.Extra = make([]api.Pair, api.MaxExtra+1) },
		func(m *api.Message) { m.Other = []api.Element{{No: 60, Data: []byte{1}}} },
		func(m *api.Message) { m.Other = make([]api.Element, api.MaxOther+1) },
	}
	for _, r := range rows(t) {
		for _, parts := range sets() {
			want := wants(r, parts)
			all := of(r.kind, parts...)
			for _, play := range plays {
				m := of(r.kind, parts...)
				play(&m)
				play(&all)
				fits(t, m, want)
			}
			fits(t, all, want)
		}
	}
}

// laden is a message with all there is, in lists with room behind their ends.
func laden(kind int) api.Message {
	m := of(kind, list(asked)...)
	m.Stan, m.Time, m.Acquirer, m.Key, m.Note = 1, "20260102030405", "123", "0000002A", "n"
	m.Tags = append(make([]api.Tag, 0, 4), api.Tag{Tag: 0x95, Data: append(make([]byte, 0, 4), 1, 2)})
	m.Extra = append(make([]api.Pair, 0, 4), api.Pair{Key: "k", Val: "v"})
	m.Other = append(make([]api.Element, 0, 4), api.Element{No: 60, Data: append(make([]byte, 0, 4), 3)})
	return m
}

func TestWhatIsHandedInStays(t *testing.T) {
	for kind := -1; kind <= 12; kind++ {
		for _, cut := range []bool{false, true} {
			m, want := laden(kind), laden(kind)
			if cut {
				m.Tags, want.Tags = m.Tags[:0], want.Tags[:0]
			}
			kinds.Fits(m)
			if !reflect.DeepEqual(m, want) {
				t.Errorf("kind %d: %+v; it was %+v", kind, m, want)
			}
			if !reflect.DeepEqual(m.Tags[:4], want.Tags[:4]) || !reflect.DeepEqual(m.Extra[:4], want.Extra[:4]) || !reflect.DeepEqual(m.Other[:4], want.Other[:4]) {
				t.Errorf("kind %d: what is behind the ends was turned", kind)
			}
			if !slices.Equal(m.Other[0].Data[:4], want.Other[0].Data[:4]) || !slices.Equal(m.Tags[:1][0].Data[:4], want.Tags[:1][0].Data[:4]) {
				t.Errorf("kind %d: what is behind the ends of the data was turned", kind)
			}
		}
	}
}

// told is what all calls tell of what is given here.
func told(t *testing.T) []string {
	t.Helper()
	var out []string
	for _, kind := range append(nones(), 1, 2, 3, 4, 5, 6, 7, 8, 9, 10, 11) {
		out = append(out, kinds.Code(kind), kinds.Mti(kind), strconv.Itoa(kinds.Answer(kind)), strconv.FormatBool(kinds.Money(kind)), strconv.Itoa(int(kinds.Fits(laden(kind)))))
	}
	for _, r := range rows(t) {
		out = append(out, strconv.Itoa(kinds.OfCode(r.code)), strconv.Itoa(kinds.OfMti(r.mti)), strconv.Itoa(kinds.OfCode(r.mti)), strconv.Itoa(int(kinds.Fits(of(r.kind, r.must...)))))
	}
	return out
}

func TestCallsHangOnTheirArgumentsAlone(t *testing.T) {
	want := told(t)
	kinds.OfCode("AUTQ")
	kinds.Fits(api.Message{Kind: math.MinInt, Amount: 1})
	if got := told(t); !slices.Equal(got, want) {
		t.Error("the second time, the calls answered something else")
	}
}
