package residue_test

import (
	"math"
	"math/rand"
	"reflect"
	"strings"
	"sync"
	"testing"

	"comptoir/api"
	"comptoir/residue"
)

// strangers are numbers that are no sides, near to those that are, and far from them.
func strangers() []int {
	return []int{-1, 2, 3, -2, 10, 48, 49, 255, 256, 257, 1 << 16, 1<<16 + 1, 1 << 32, 1<<32 + 1, math.MinInt, math.MinInt + 1, math.MaxInt - 1, math.MaxInt}
}

// plain is m, whose lists are nil where they are empty.
func plain(m api.Message) api.Message {
	m.Tags, m.Extra, m.Other = tags(m.Tags), some(m.Extra), elements(m.Other)
	return m
}

// left is r, whose lists are nil where they are empty.
func left(r api.Residue) api.Residue {
	r.Extra, r.Other = some(r.Extra), elements(r.Other)
	return r
}

// some is l, or nil, if it is empty.
func some[T any](l []T) []T {
	if len(l) == 0 {
		return nil
	}
	return l
}

// tags are a copy of l, with data that are nil where they are empty.
func tags(l []api.Tag) []api.Tag {
	var out []api.Tag
	for _, x := range l {
		out = append(out, api.Tag{Tag: x.Tag, Data: some(x.Data)})
	}
	return out
}

// elements are a copy of l, with data that are nil where they are empty.
func elements(l []api.Element) []api.Element {
	var out []api.Element
	for _, x := range l {
		out = append(out, api.Element{No: x.No, Data: some(x.Data)})
	}
	return out
}

// sayable tells whether s has from 1 to top bytes from 32 to 126.
func sayable(s string, top int) bool {
	return 1 <= len(s) && len(s) <= top && strings.IndexFunc(s, func(c rune) bool { return c < 32 || c > 126 }) < 0
}

// splitAnew is what the chapter tells of Split.
func splitAnew(m api.Message, side int) (api.Message, api.Residue) {
	var r api.Residue
	if side == 0 {
		r.Other = m.Other
		m.Other = nil
	}
	if side == 1 {
		r.Note, r.Extra = m.Note, m.Extra
		m.Note, m.Extra = "", nil
		if m.Merchant != "" && !sayable(m.Merchant, 15) {
			r.Merchant = m.Merchant
			m.Merchant = "?"
		}
		if m.Terminal != "" && !sayable(m.Terminal, 8) {
			r.Terminal = m.Terminal
			m.Terminal = "?"
		}
	}
	return plain(m), left(r)
}

// joinAnew is what the chapter tells of Join.
func joinAnew(m api.Message, r api.Residue) api.Message {
	if r.Note != "" {
		m.Note = r.Note
	}
	if r.Merchant != "" && m.Merchant != "" {
		m.Merchant = r.Merchant
	}
	if r.Terminal != "" && m.Terminal != "" {
		m.Terminal = r.Terminal
	}
	if len(r.Extra) > 0 {
		m.Extra = r.Extra
	}
	if len(r.Other) > 0 {
		m.Other = r.Other
	}
	return plain(m)
}

// emptyAnew is what the chapter tells of Empty.
func emptyAnew(r api.Residue) bool {
	return reflect.DeepEqual(left(r), api.Residue{})
}

// splits fails unless Split tells what the chapter does, Empty likewise of what is left, and both are joined as m was.
func splits(t *testing.T, m api.Message, side int) {
	t.Helper()
	wantM, wantR := splitAnew(m, side)
	gotM, gotR := residue.Split(m, side)
	if !reflect.DeepEqual(plain(gotM), wantM) || !reflect.DeepEqual(left(gotR), wantR) {
		t.Errorf("Split(%#v, %d): %#v, %#v; want %#v, %#v", m, side, gotM, gotR, wantM, wantR)
	}
	empties(t, gotR)
	if back := residue.Join(gotM, gotR); !reflect.DeepEqual(plain(back), plain(m)) {
		t.Errorf("Split of %#v for %d is joined as %#v", m, side, back)
	}
}

// joins fails unless Join tells what the chapter does.
func joins(t *testing.T, m api.Message, r api.Residue) {
	t.Helper()
	if got, want := residue.Join(m, r), joinAnew(m, r); !reflect.DeepEqual(plain(got), want) {
		t.Errorf("Join(%#v, %#v): %#v; want %#v", m, r, got, want)
	}
}

// empties fails unless Empty tells what the chapter does.
func empties(t *testing.T, r api.Residue) {
	t.Helper()
	if got, want := residue.Empty(r), emptyAnew(r); got != want {
		t.Errorf("Empty(%#v): %v; want %v", r, got, want)
	}
}

// roomy is the items in a list with room behind its end, in which one more stands.
func roomy[T any](behind T, items ...T) []T {
	return append(append(make([]T, 0, len(items)+1), items...), behind)[:len(items)]
}

// whole has something of each field, names that bitmaps have no room for, and room behind each list.
func whole() api.Message {
	return api.Message{
		Kind: 1, Stan: 2, Time: "20260102030405", Acquirer: "123", Pan: "4000000000000002", Currency: "978", Amount: 3, Rrn: "ABCdef123456", Merchant: "a shop of a long name", Terminal: "Café 1", Approval: "a1B2c3", Entry: 51, Action: "116", Reason: "4021",
		Origin: api.Origin{Stan: 5, Time: "20251231235959"},
		Tags:   roomy(api.Tag{Tag: 99}, api.Tag{Tag: 149, Data: roomy[byte](99, 1, 2)}, api.Tag{Tag: 130}),
		Key:    "0000ABCD", Note: "a note",
		Extra: roomy(api.Pair{Key: "room"}, api.Pair{Key: "n", Val: "o"}, api.Pair{Key: "p"}),
		Other: roomy(api.Element{No: 99}, api.Element{No: 60, Data: roomy[byte](99, 3)}, api.Element{No: 61}),
	}
}

// all has something of each field, other than whole has it, and room behind each list.
func all() api.Residue {
	return api.Residue{
		Note: "left", Merchant: "left shop", Terminal: "left till",
		Extra: roomy(api.Pair{Key: "room"}, api.Pair{Key: "left", Val: "val"}, api.Pair{Val: "more"}, api.Pair{}),
		Other: roomy(api.Element{No: 99}, api.Element{No: 62, Data: roomy[byte](99, 7, 8)}, api.Element{}),
	}
}

// someOfWhole is whole, with those fields that residues have by the bits of set alone.
func someOfWhole(set int) api.Message {
	m := whole()
	if set&1 == 0 {
		m.Note = ""
	}
	if set&2 == 0 {
		m.Merchant = ""
	}
	if set&4 == 0 {
		m.Terminal = ""
	}
	if set&8 == 0 {
		m.Extra = nil
	}
	if set&16 == 0 {
		m.Other = nil
	}
	return m
}

// someOfAll is all, with those fields by the bits of set alone.
func someOfAll(set int) api.Residue {
	r := all()
	if set&1 == 0 {
		r.Note = ""
	}
	if set&2 == 0 {
		r.Merchant = ""
	}
	if set&4 == 0 {
		r.Terminal = ""
	}
	if set&8 == 0 {
		r.Extra = nil
	}
	if set&16 == 0 {
		r.Other = nil
	}
	return r
}

// names are texts at the edges of what bitmaps can say.
func names() []string {
	out := []string{"", "?", "??", " ", "  ", " a", "a ", "~", "a\x7f", "\x1f", "\t", "a\nb", "\x00", "é", "é€😀", "\xff", "\x80", "a\xe9", "\u00a0", "\ufeff", "\ufffd", "７", "ab?", "<&>\"'"}
	for n := range 40 {
		out = append(out, strings.Repeat("x", n), strings.Repeat(" ", n), strings.Repeat("é", n), strings.Repeat("?", n))
	}
	for _, n := range []int{7, 8, 9, 14, 15, 16} {
		for _, s := range []string{"é", "\x1f", "\x7f", "\xff", "~", " "} {
			out = append(out, s+strings.Repeat("y", n-1), strings.Repeat("y", n-1)+s, strings.Repeat("y", n-2)+s)
		}
	}
	return append(out, strings.Repeat("z", 264), strings.Repeat("z", 271))
}

func TestTheChaptersExample(t *testing.T) {
	m, r := residue.Split(api.Message{Note: "a note"}, api.Xml)
	if !residue.Empty(r) || !reflect.DeepEqual(r, api.Residue{}) || m.Note != "a note" {
		t.Errorf("%+v, %+v", m, r)
	}
}

func TestSplitForXml(t *testing.T) {
	m, r := residue.Split(whole(), api.Xml)
	want := whole()
	want.Other = nil
	if !reflect.DeepEqual(plain(m), plain(want)) {
		t.Errorf("the message: %+v", m)
	}
	if !reflect.DeepEqual(left(r), left(api.Residue{Other: whole().Other})) || residue.Empty(r) {
		t.Errorf("the residue: %+v", r)
	}
}

func TestSplitForBit(t *testing.T) {
	m, r := residue.Split(whole(), api.Bit)
	want := whole()
	want.Note, want.Merchant, want.Terminal, want.Extra = "", "?", "?", nil
	if !reflect.DeepEqual(plain(m), plain(want)) {
		t.Errorf("the message: %+v", m)
	}
	if !reflect.DeepEqual(left(r), api.Residue{Note: "a note", Merchant: "a shop of a long name", Terminal: "Café 1", Extra: whole().Extra}) || residue.Empty(r) {
		t.Errorf("the residue: %+v", r)
	}
}

func TestSplitForOtherSides(t *testing.T) {
	for _, side := range strangers() {
		m, r := residue.Split(whole(), side)
		if !reflect.DeepEqual(plain(m), plain(whole())) || !reflect.DeepEqual(r, api.Residue{}) {
			t.Errorf("for %d: %+v, %+v", side, m, r)
		}
	}
}

func TestSplitOfEachSetOfWhatMayBeLeft(t *testing.T) {
	for set := range 32 {
		for _, side := range append(strangers(), api.Xml, api.Bit) {
			splits(t, someOfWhole(set), side)
		}
	}
	for _, side := range append(strangers(), api.Xml, api.Bit) {
		m, r := residue.Split(api.Message{}, side)
		if !reflect.DeepEqual(m, api.Message{}) || !reflect.DeepEqual(r, api.Residue{}) {
			t.Errorf("Split of nothing for %d: %+v, %+v", side, m, r)
		}
	}
}

func TestSplitOfEachFieldAlone(t *testing.T) {
	full := reflect.ValueOf(whole())
	for i := range full.NumField() {
		var m api.Message
		reflect.ValueOf(&m).Elem().Field(i).Set(full.Field(i))
		name := full.Type().Field(i).Name
		for side, goes := range [...]string{"Other", "Note Merchant Terminal Extra", ""} {
			splits(t, m, side)
			said, r := residue.Split(m, side)
			if leaves := strings.Contains(" "+goes+" ", " "+name+" "); residue.Empty(r) == leaves || reflect.DeepEqual(plain(said), plain(m)) == leaves {
				t.Errorf("Split of %s alone for %d: %+v, %+v", name, side, said, r)
			}
		}
	}
}

func TestSplitOfNames(t *testing.T) {
	for i, r := range []struct {
		name                   string
		asMerchant, asTerminal bool
	}{
		{"", true, true},
		{"a", true, true},
		{" ", true, true},
		{" a ", true, true},
		{"~", true, true},
		{"?", true, true},
		{"12345678", true, true},
		{"123456789", true, false},
		{"123456789012345", true, false},
		{"1234567890123456", false, false},
		{"               ", true, false},
		{"                ", false, false},
		{"???????????????", true, false},
		{"????????????????", false, false},
		{"é", false, false},
		{"\x7f", false, false},
		{"\x1f", false, false},
		{"a\tb", false, false},
		{"a\n", false, false},
		{"\xff", false, false},
	} {
		m, left := residue.Split(api.Message{Merchant: r.name, Terminal: r.name}, api.Bit)
		if r.asMerchant && (m.Merchant != r.name || left.Merchant != "") || !r.asMerchant && (m.Merchant != "?" || left.Merchant != r.name) {
			t.Errorf("row %d: the Merchant: %q, and %q is left", i, m.Merchant, left.Merchant)
		}
		if r.asTerminal && (m.Terminal != r.name || left.Terminal != "") || !r.asTerminal && (m.Terminal != "?" || left.Terminal != r.name) {
			t.Errorf("row %d: the Terminal: %q, and %q is left", i, m.Terminal, left.Terminal)
		}
		if residue.Empty(left) != (r.asMerchant && r.asTerminal) {
			t.Errorf("row %d: Empty is wrong", i)
		}
	}
}

func TestSplitOfEachByteOfANameWhereverItStands(t *testing.T) {
	for x := range 256 {
		for n := 1; n <= 17; n++ {
			for at := range n {
				s := strings.Repeat("a", at) + string([]byte{byte(x)}) + strings.Repeat("a", n-at-1)
				splits(t, api.Message{Merchant: s}, api.Bit)
				splits(t, api.Message{Terminal: s}, api.Bit)
			}
		}
	}
}

func TestSplitOfTwoNames(t *testing.T) {
	for _, merchant := range names() {
		for _, terminal := range names() {
			splits(t, api.Message{Kind: api.AuthAsk, Merchant: merchant, Terminal: terminal}, api.Bit)
		}
		for _, side := range append(strangers(), api.Xml) {
			splits(t, api.Message{Merchant: merchant, Terminal: merchant}, side)
		}
	}
}

func TestSplitOfWhatNoSideSays(t *testing.T) {
	many := whole()
	for i := range 1_000 {
		many.Extra = append(many.Extra, api.Pair{Key: strings.Repeat("k", i%7), Val: strings.Repeat("v", i%5)})
		many.Other = append(many.Other, api.Element{No: i - 500, Data: make([]byte, i%9)})
		many.Tags = append(many.Tags, api.Tag{Tag: i - 500, Data: make([]byte, i%9)})
	}
	for _, m := range []api.Message{
		many,
		{Note: "\xff\x00", Extra: []api.Pair{{}}, Other: []api.Element{{}}},
		{Kind: math.MinInt, Stan: math.MaxInt, Amount: math.MaxUint64, Entry: -1, Origin: api.Origin{Stan: -7}},
		{Note: " ", Key: "none"},
		{Note: strings.Repeat("n", 100_000), Merchant: strings.Repeat("m", 100_000), Terminal: strings.Repeat("t", 100_000)},
		{Merchant: strings.Repeat("m", 65_551), Terminal: strings.Repeat("t", 65_544)},
	} {
		for _, side := range append(strangers(), api.Xml, api.Bit) {
			splits(t, m, side)
		}
	}
}

func TestJoinOfEachSetWithEach(t *testing.T) {
	for have := range 32 {
		for rest := range 32 {
			joins(t, someOfWhole(have), someOfAll(rest))
		}
	}
}

func TestJoinOfEachPart(t *testing.T) {
	for i, r := range []struct {
		r    api.Residue
		turn func(m *api.Message)
	}{
		{api.Residue{}, func(m *api.Message) {}},
		{api.Residue{Note: "x"}, func(m *api.Message) { m.Note = "x" }},
		{api.Residue{Merchant: "x"}, func(m *api.Message) { m.Merchant = "x" }},
		{api.Residue{Terminal: "x"}, func(m *api.Message) { m.Terminal = "x" }},
		{api.Residue{Extra: []api.Pair{{Key: "x"}}}, func(m *api.Message) { m.Extra = []api.Pair{{Key: "x"}} }},
		{api.Residue{Extra: []api.Pair{{}}}, func(m *api.Message) { m.Extra = []api.Pair{{}} }},
		{api.Residue{Other: []api.Element{{No: 7, Data: []byte{1}}}}, func(m *api.Message) { m.Other = []api.Element{{No: 7, Data: []byte{1}}} }},
		{api.Residue{Other: []api.Element{{}}}, func(m *api.Message) { m.Other = []api.Element{{}} }},
		{api.Residue{Merchant: "\xff", Terminal: " "}, func(m *api.Message) { m.Merchant, m.Terminal = "\xff", " " }},
	} {
		want := whole()
		r.turn(&want)
		if got := residue.Join(whole(), r.r); !reflect.DeepEqual(plain(got), plain(want)) {
			t.Errorf("row %d: %+v", i, got)
		}
		if residue.Empty(r.r) != (i == 0) {
			t.Errorf("row %d: Empty is wrong", i)
		}
	}
}

func TestJoinOfNamesThatAreNotThere(t *testing.T) {
	for i, r := range []struct{ merchant, terminal, wantM, wantT string }{
		{"", "", "", ""},
		{"", "?", "", "left till"},
		{"?", "", "left shop", ""},
		{"?", "?", "left shop", "left till"},
		{"own", "own", "left shop", "left till"},
		{" ", "\x00", "left shop", "left till"},
	} {
		m := residue.Join(api.Message{Merchant: r.merchant, Terminal: r.terminal}, all())
		if m.Merchant != r.wantM || m.Terminal != r.wantT {
			t.Errorf("row %d: %q, %q", i, m.Merchant, m.Terminal)
		}
		if m.Note != "left" || !reflect.DeepEqual(plain(m).Extra, all().Extra) || !reflect.DeepEqual(plain(m).Other, plain(api.Message{Other: all().Other}).Other) {
			t.Errorf("row %d: what hangs on no name: %+v", i, m)
		}
	}
}

func TestJoinOfNamesWithNames(t *testing.T) {
	for _, own := range names() {
		for _, rest := range names() {
			joins(t, api.Message{Merchant: own}, api.Residue{Merchant: rest})
			joins(t, api.Message{Terminal: own}, api.Residue{Terminal: rest})
			joins(t, api.Message{Merchant: own, Terminal: rest}, api.Residue{Merchant: rest, Terminal: own})
		}
	}
}

func TestEmptyOfEachSet(t *testing.T) {
	for set := range 32 {
		r := someOfAll(set)
		if got := residue.Empty(r); got != (set == 0) {
			t.Errorf("Empty(%+v): %v", r, got)
		}
	}
}

func TestEmptyOfEachPartAlone(t *testing.T) {
	for i, r := range []struct {
		r    api.Residue
		want bool
	}{
		{api.Residue{}, true},
		{api.Residue{Extra: []api.Pair{}, Other: []api.Element{}}, true},
		{api.Residue{Extra: make([]api.Pair, 0, 9), Other: make([]api.Element, 0, 9)}, true},
		{api.Residue{Note: " "}, false},
		{api.Residue{Note: "\x00"}, false},
		{api.Residue{Merchant: "?"}, false},
		{api.Residue{Terminal: "?"}, false},
		{api.Residue{Extra: []api.Pair{{}}}, false},
		{api.Residue{Other: []api.Element{{}}}, false},
	} {
		if got := residue.Empty(r.r); got != r.want {
			t.Errorf("row %d: %v", i, got)
		}
	}
}

func TestNilAndEmptyListsAreTheSame(t *testing.T) {
	empty := api.Message{Kind: 3, Tags: []api.Tag{}, Extra: []api.Pair{}, Other: []api.Element{}}
	for _, side := range []int{api.Xml, api.Bit, 2} {
		m, r := residue.Split(empty, side)
		if !reflect.DeepEqual(plain(m), api.Message{Kind: 3}) || !residue.Empty(r) {
			t.Errorf("Split for %d: %+v, %+v", side, m, r)
		}
	}
	m := residue.Join(whole(), api.Residue{Extra: []api.Pair{}, Other: []api.Element{}})
	if !reflect.DeepEqual(plain(m), plain(whole())) {
		t.Errorf("Join with empty lists: %+v", m)
	}
	joins(t, empty, all())
	joins(t, empty, api.Residue{})
}

// chance is a message of anything, whose texts are of l.
func chance(r *rand.Rand, l []string) api.Message {
	word := func() string { return l[r.Intn(len(l))] }
	m := api.Message{Kind: r.Intn(12), Stan: r.Intn(9), Time: word(), Pan: word(), Merchant: word(), Terminal: word(), Key: word(), Amount: uint64(r.Intn(9)), Entry: r.Intn(3)}
	if r.Intn(2) == 0 {
		m.Note = word()
	}
	for range r.Intn(3) {
		m.Extra = append(m.Extra, api.Pair{Key: word(), Val: word()})
	}
	for range r.Intn(3) {
		m.Other = append(m.Other, api.Element{No: r.Intn(130), Data: []byte(word())})
	}
	for range r.Intn(3) {
		m.Tags = append(m.Tags, api.Tag{Tag: r.Intn(130), Data: []byte(word())})
	}
	return m
}

func TestChanceMessages(t *testing.T) {
	r, l := rand.New(rand.NewSource(19)), names()
	sides := append(strangers(), api.Xml, api.Bit, api.Xml, api.Bit)
	for range 20_000 {
		m := chance(r, l)
		splits(t, m, sides[r.Intn(len(sides))])
		splits(t, m, r.Intn(2))
		x := chance(r, l)
		rest := api.Residue{Note: x.Note, Merchant: x.Merchant, Terminal: x.Terminal, Extra: x.Extra, Other: x.Other}
		joins(t, m, rest)
		empties(t, rest)
	}
}

func TestSplitTwiceLeavesNothingMore(t *testing.T) {
	for set := range 32 {
		for _, side := range []int{api.Xml, api.Bit} {
			once, _ := residue.Split(someOfWhole(set), side)
			twice, r := residue.Split(once, side)
			if !reflect.DeepEqual(plain(twice), plain(once)) || !residue.Empty(r) {
				t.Errorf("Split for %d of what was split: %+v, %+v", side, twice, r)
			}
		}
	}
}

// scribble writes over all data of l, and the room behind them.
func scribble(l []byte) {
	for i := range l[:cap(l)] {
		l[:cap(l)][i] = 170
	}
}

// scribblePairs writes over l, and the room behind it.
func scribblePairs(l []api.Pair) {
	l = l[:cap(l)]
	for i := range l {
		l[i] = api.Pair{Key: "170"}
	}
}

// scribbleElements writes over l, the data in it, and the room behind it.
func scribbleElements(l []api.Element) {
	l = l[:cap(l)]
	for i := range l {
		scribble(l[i].Data)
		l[i] = api.Element{No: 170}
	}
}

// scribbleMessage writes over all lists of m.
func scribbleMessage(m api.Message) {
	scribblePairs(m.Extra)
	scribbleElements(m.Other)
	l := m.Tags[:cap(m.Tags)]
	for i := range l {
		scribble(l[i].Data)
		l[i] = api.Tag{Tag: 170}
	}
}

// scribbleResidue writes over all lists of r.
func scribbleResidue(r api.Residue) {
	scribblePairs(r.Extra)
	scribbleElements(r.Other)
}

// untouched fails unless m is whole yet, with the room behind its lists.
func untouched(t *testing.T, m api.Message) {
	t.Helper()
	if !reflect.DeepEqual(m, whole()) {
		t.Errorf("what was handed in is turned: %+v", m)
	}
	if m.Tags[:3][2].Tag != 99 || m.Tags[0].Data[:3][2] != 99 || m.Extra[:3][2].Key != "room" || m.Other[:3][2].No != 99 || m.Other[0].Data[:2][1] != 99 {
		t.Errorf("the room behind a list that was handed in is written: %+v", m)
	}
}

// untouchedRest fails unless r is all yet, with the room behind its lists.
func untouchedRest(t *testing.T, r api.Residue) {
	t.Helper()
	if !reflect.DeepEqual(r, all()) {
		t.Errorf("the residue that was handed in is turned: %+v", r)
	}
	if r.Extra[:4][3].Key != "room" || r.Other[:3][2].No != 99 || r.Other[0].Data[:3][2] != 99 {
		t.Errorf("the room behind a list that was handed in is written: %+v", r)
	}
}

func TestSplitTurnsNothingThatIsHandedInAndSharesNothing(t *testing.T) {
	for _, side := range []int{api.Xml, api.Bit, 2} {
		wantM, wantR := splitAnew(whole(), side)
		in := whole()
		m, r := residue.Split(in, side)
		untouched(t, in)
		scribbleMessage(in)
		if !reflect.DeepEqual(plain(m), wantM) || !reflect.DeepEqual(left(r), wantR) {
			t.Errorf("for %d: it turned with what was handed in: %+v, %+v", side, m, r)
		}
		scribbleMessage(m)
		if !reflect.DeepEqual(left(r), wantR) {
			t.Errorf("for %d: the residue turned with the message: %+v", side, r)
		}
		in = whole()
		m, r = residue.Split(in, side)
		scribbleResidue(r)
		if !reflect.DeepEqual(plain(m), wantM) {
			t.Errorf("for %d: the message turned with the residue: %+v", side, m)
		}
		scribbleMessage(m)
		untouched(t, in)
	}
}

func TestJoinTurnsNothingThatIsHandedInAndSharesNothing(t *testing.T) {
	for set := range 32 {
		want := joinAnew(whole(), someOfAll(set))
		in, rest := whole(), someOfAll(set)
		m := residue.Join(in, rest)
		untouched(t, in)
		scribbleMessage(in)
		scribbleResidue(rest)
		if !reflect.DeepEqual(plain(m), want) {
			t.Errorf("Join turned with what was handed in: %+v", m)
		}
		in, full := whole(), all()
		rest = someOfAll(set)
		if set&8 > 0 {
			rest.Extra = full.Extra
		}
		if set&16 > 0 {
			rest.Other = full.Other
		}
		scribbleMessage(residue.Join(in, rest))
		untouched(t, in)
		untouchedRest(t, full)
	}
}

func TestEmptyTurnsNothing(t *testing.T) {
	r := all()
	residue.Empty(r)
	untouchedRest(t, r)
}

func TestListsThatAreSharedByThoseHandedIn(t *testing.T) {
	m := whole()
	r := api.Residue{Extra: m.Extra, Other: m.Other}
	got := residue.Join(m, r)
	scribbleMessage(got)
	untouched(t, m)
	// Both elements and the tag stand on the same bytes.
	b := []byte{1, 2, 3}
	m = api.Message{Tags: []api.Tag{{Tag: 149, Data: b}}, Other: []api.Element{{No: 60, Data: b}, {No: 61, Data: b[1:]}}}
	said, rest := residue.Split(m, api.Xml)
	scribble(said.Tags[0].Data)
	scribble(rest.Other[1].Data)
	if string(rest.Other[0].Data) != "\x01\x02\x03" || string(b) != "\x01\x02\x03" {
		t.Errorf("%+v, %+v, %v", said, rest, b)
	}
}

func TestCallsBesideEachOther(t *testing.T) {
	m, r := whole(), all()
	var group sync.WaitGroup
	for side := range 8 {
		group.Go(func() {
			for range 200 {
				splits(t, m, side%3)
				joins(t, m, r)
				empties(t, r)
			}
		})
	}
	group.Wait()
	untouched(t, m)
	untouchedRest(t, r)
}
