package model_test

import (
	"fmt"
	"math"
	"math/rand"
	"reflect"
	"regexp"
	"slices"
	"strconv"
	"strings"
	"testing"

	"comptoir/api"
	"comptoir/canon"
	"comptoir/model"
	"comptoir/simple"
	"comptoir/tree"
)

// chapter is the models as the chapter has them, a line each.
const chapter = `
Document, each once: Hdr (SComplex), Body (SComplex)
Hdr, each once: MsgFctn (SCode, 4 to 4), XchgId (SNumber, 1 to 6), CreDtTm (STime, 19 to 19), InitgPty (SNumber, 1 to 11)
Body, each at most once: PAN (SNumber, 12 to 19), TtlAmt (SAmount, 4 to 13), Ccy (SNumber, 3 to 3), RRN (SAlnum, 12 to 12), MrchntId (SText, 1 to 35), TermnlId (SText, 1 to 35), NtryMd (SNumber, 1 to 3), Rspn (SCode, 4 to 4), RspnRsn (SCode, 4 to 4), AuthstnCd (SAlnum, 6 to 6), Rsn (SNumber, 4 to 4), OrgnlTx (SComplex), ICCData (SHex, 2 to 510), Note (SText, 1 to 140), SplmtryData (SComplex), RsdlKey (SHex, 8 to 8)
OrgnlTx, each once: XchgId (SNumber, 1 to 6), CreDtTm (STime, 19 to 19)
SplmtryData, each once: Nm (SText, 1 to 20), Val (SText, 1 to 100)
`

// The kids of each element with a model, told by patterns: their names in order, a blank behind each.
var forms = map[string]*regexp.Regexp{
	"Document":    regexp.MustCompile(`\AHdr Body \z`),
	"Hdr":         regexp.MustCompile(`\AMsgFctn XchgId CreDtTm InitgPty \z`),
	"Body":        regexp.MustCompile(`\A(PAN )?(TtlAmt )?(Ccy )?(RRN )?(MrchntId )?(TermnlId )?(NtryMd )?(Rspn )?(RspnRsn )?(AuthstnCd )?(Rsn )?(OrgnlTx )?(ICCData )?(Note )?(SplmtryData ){0,8}(RsdlKey )?\z`),
	"OrgnlTx":     regexp.MustCompile(`\AXchgId CreDtTm \z`),
	"SplmtryData": regexp.MustCompile(`\ANm Val \z`),
}

var blank = regexp.MustCompile(`\A[\t\n\r ]*\z`)

// types are the simple types by their names.
func types() map[string]int {
	return map[string]int{"SNumber": 1, "SText": 2, "SCode": 3, "STime": 4, "SAmount": 5, "SAlnum": 6, "SHex": 7, "SComplex": 8}
}

// models reads the chapter's models.
func models(t testing.TB) map[string][]api.Child {
	t.Helper()
	child := regexp.MustCompile(`(\w+) \((\w+)(?:, (\d+) to (\d+))?\)`)
	out := map[string][]api.Child{}
	for _, line := range strings.Split(strings.TrimSpace(chapter), "\n") {
		ahead, behind, _ := strings.Cut(line, ": ")
		name, often, _ := strings.Cut(ahead, ", ")
		for _, m := range child.FindAllStringSubmatch(behind, -1) {
			c := api.Child{Name: m[1], Max: 1, Type: types()[m[2]]}
			if often == "each once" {
				c.Min = 1
			}
			if c.Name == "SplmtryData" {
				c.Max = 8
			}
			if c.Type != 8 {
				c.Low, _ = strconv.Atoi(m[3])
				c.Top, _ = strconv.Atoi(m[4])
			}
			out[name] = append(out[name], c)
		}
	}
	if len(out) != 5 || len(out["Body"]) != 16 {
		t.Fatalf("the chapter was read as %v", out)
	}
	return out
}

// simples are the children that have a value, by their names, which tell them wherever they stand.
func simples(t testing.TB) map[string]api.Child {
	t.Helper()
	out := map[string]api.Child{}
	for _, l := range models(t) {
		for _, c := range l {
			c.Min = 0
			if had, is := out[c.Name]; is && had != c {
				t.Fatalf("%s is not the same wherever it stands", c.Name)
			}
			if c.Type != 8 {
				out[c.Name] = c
			}
		}
	}
	return out
}

// part is an element with all that stands in it.
type part struct {
	name, text string
	attrs      []api.Attr
	kids       []part
}

// value is a part with a text.
func value(name, s string) part {
	return part{name: name, text: s}
}

// outer is a part with others in it.
func outer(name string, kids ...part) part {
	return part{name: name, kids: kids}
}

// document is the first one of a file.
func document(kids ...part) part {
	return part{name: "Document", attrs: []api.Attr{{Name: "xmlns", Value: "urn:comptoir:caaa"}}, kids: kids}
}

// header is one that may be.
func header() part {
	return outer("Hdr", value("MsgFctn", "AUTQ"), value("XchgId", "000007"), value("CreDtTm", "2026-01-02T03:04:05"), value("InitgPty", "12345678901"))
}

// pair is a part of a body that may be there more than once.
func pair() part {
	return outer("SplmtryData", value("Nm", "shelf"), value("Val", "9"))
}

// body is one with each child of its model once.
func body() part {
	return outer("Body", value("PAN", "4000000000000002"), value("TtlAmt", "12.34"), value("Ccy", "978"), value("RRN", "a1b2c3d4e5f6"), value("MrchntId", "shop"), value("TermnlId", "till 1"), value("NtryMd", "51"), value("Rspn", "APPR"), value("RspnRsn", "NORM"), value("AuthstnCd", "A1b2C3"), value("Rsn", "4021"), outer("OrgnlTx", value("XchgId", "1"), value("CreDtTm", "2024-02-29T23:59:59")), value("ICCData", "9F2601"), value("Note", "né"), pair(), value("RsdlKey", "0000ABCD"))
}

// whole is a file with all that may be in it once.
func whole() part {
	return document(header(), body())
}

// small is a file with nothing in it that need not be.
func small() part {
	return document(header(), outer("Body"))
}

// clone is the part anew.
func (p part) clone() part {
	p.attrs = slices.Clone(p.attrs)
	p.kids = slices.Clone(p.kids)
	for i := range p.kids {
		p.kids[i] = p.kids[i].clone()
	}
	return p
}

// nodes is the part as nodes, each ahead of those that stand in it.
func (p part) nodes() []api.Node {
	return lay(nil, p, -1)
}

// lay is l with the part behind it.
func lay(l []api.Node, p part, parent int) []api.Node {
	at := len(l)
	l = append(l, api.Node{Parent: parent, Name: p.name, Text: p.text, Attrs: slices.Clone(p.attrs)})
	for _, k := range p.kids {
		l = lay(l, k, at)
	}
	return l
}

// parts are the part, and all that stand in it, in the order of its nodes.
func (p *part) parts() []*part {
	out := []*part{p}
	for i := range p.kids {
		out = append(out, p.kids[i].parts()...)
	}
	return out
}

// each is the parts of one that is used for nothing else.
func each(p part) []*part {
	return p.parts()
}

// turned is the part with the one at place i, in the order of its nodes, turned by f.
func (p part) turned(i int, f func(*part)) part {
	out := p.clone()
	f(out.parts()[i])
	return out
}

// place is that of the first one of that name behind the place of another one.
func (p part) place(t *testing.T, behind int, name string) int {
	t.Helper()
	for i, x := range p.parts() {
		if i >= behind && x.name == name {
			return i
		}
	}
	t.Fatalf("there is no %s", name)
	return 0
}

// short names whatever it is in what a test tells.
func short(x any) string {
	s := fmt.Sprintf("%+v", x)
	if len(s) > 400 {
		s = s[:400] + ".. (" + strconv.Itoa(len(s)) + " bytes)"
	}
	return strconv.QuoteToASCII(s)
}

// tells fails unless Check of l answers want.
func tells(t *testing.T, l []api.Node, want api.Errno) {
	t.Helper()
	if e := model.Check(l); e != want {
		t.Errorf("Check of %d nodes %s: error %d; want %d", len(l), short(l), e, want)
	}
}

// kids is the names of those that stand in the node at place i, a blank behind each.
func kids(l []api.Node, i int) string {
	out := ""
	for _, n := range l {
		if n.Parent == i {
			out += n.Name + " "
		}
	}
	return out
}

// asked is what the chapter tells of the node at place i, if it lets all ahead of it.
func asked(values map[string]api.Child, l []api.Node, i int) api.Errno {
	n := l[i]
	wanted := "[]"
	if i == 0 {
		wanted = "[{xmlns urn:comptoir:caaa}]"
	}
	if fmt.Sprint(n.Attrs) != wanted || i == 0 && n.Name != "Document" {
		return api.ErrModel
	}
	if form, has := forms[n.Name]; has {
		if !blank.MatchString(n.Text) || !form.MatchString(kids(l, i)) {
			return api.ErrModel
		}
		return api.OK
	}
	if kids(l, i) != "" {
		return api.ErrModel
	}
	return simple.Check(values[n.Name], n.Text)
}

// expected is what the chapter tells of l.
func expected(values map[string]api.Child, l []api.Node) api.Errno {
	if !canon.Right(l) {
		return api.ErrTree
	}
	for i := range l {
		if e := asked(values, l, i); e != api.OK {
			return e
		}
	}
	return api.OK
}

// named fails if a node stands where no model names it: what follows of the promise.
func named(t *testing.T, all map[string][]api.Child, l []api.Node) {
	t.Helper()
	for i, n := range l[1:] {
		parent := l[n.Parent].Name
		if !slices.ContainsFunc(all[parent], func(c api.Child) bool { return c.Name == n.Name }) {
			t.Errorf("%s was let in %s, at place %d of %s", n.Name, parent, i+1, short(l))
		}
	}
}

func TestTheChaptersExample(t *testing.T) {
	if l, is := model.Of("Note"); is || len(l) > 0 {
		t.Errorf("Of(Note): %v, %v", l, is)
	}
}

func TestModels(t *testing.T) {
	for name, want := range models(t) {
		if got, is := model.Of(name); !is || !slices.Equal(got, want) {
			t.Errorf("Of(%s): %+v, %v; want %+v", name, got, is, want)
		}
	}
}

func TestElementsThatHaveNone(t *testing.T) {
	names := []string{"", " ", "x", "\x00", "\xff", "xmlns", "Documents", "DocumentHdr", "Header", "SComplex", "Hdr Body", "urn:comptoir:caaa", strings.Repeat("Hdr", 100_000)}
	for name := range simples(t) {
		names = append(names, name)
	}
	for name := range models(t) {
		names = append(names, strings.ToLower(name), strings.ToUpper(name), name+" ", " "+name, name+"s", name[1:], name[:len(name)-1], name+"\x00", "a:"+name, name+name)
	}
	for _, name := range names {
		if l, is := model.Of(name); is || len(l) > 0 {
			t.Errorf("Of(%s): %v, %v", short(name), l, is)
		}
	}
}

func TestModelsAreNewMemory(t *testing.T) {
	for name, want := range models(t) {
		got, _ := model.Of(name)
		again, _ := model.Of(name)
		for i := range got {
			got[i] = api.Child{Name: "x", Min: -1, Max: 9, Type: 9, Low: 9, Top: -9}
		}
		_ = append(got[:1], api.Child{}, api.Child{})
		later, _ := model.Of(name)
		if !slices.Equal(again, want) || !slices.Equal(later, want) {
			t.Errorf("after an answer of Of(%s) was written into, others: %+v, %+v", name, again, later)
		}
		tells(t, whole().nodes(), api.OK)
		tells(t, document(header(), outer("Body", value("x", ""))).nodes(), api.ErrModel)
	}
}

func TestFilesThatMayBe(t *testing.T) {
	tells(t, small().nodes(), api.OK)
	tells(t, whole().nodes(), api.OK)
	for _, s := range []string{
		`<Document xmlns="urn:comptoir:caaa"><Hdr><MsgFctn>DGNQ</MsgFctn><XchgId>1</XchgId><CreDtTm>2026-01-02T03:04:05</CreDtTm><InitgPty>1</InitgPty></Hdr><Body/></Document>`,
		"\n<Document xmlns = 'urn:comptoir&#58;caaa' >\n <Hdr>\t<MsgFctn>RVRR</MsgFctn>\r\n<XchgId>999999</XchgId> <CreDtTm>9999-12-31T23:59:59</CreDtTm><InitgPty>0</InitgPty>\n</Hdr>\n<Body> \t\r\n</Body> </Document>\n",
		`<Document xmlns="urn:comptoir:caaa"><Hdr><MsgFctn>XXXX</MsgFctn><XchgId>0</XchgId><CreDtTm>0001-01-01T00:00:00</CreDtTm><InitgPty>00000000000</InitgPty></Hdr><Body><Note>a &lt; b &amp; c</Note><SplmtryData> <Nm>1</Nm> <Val>2</Val> </SplmtryData></Body></Document>`,
	} {
		l, e := tree.Parse(s)
		if e != api.OK {
			t.Fatalf("Parse of %s: error %d", short(s), e)
		}
		tells(t, l, api.OK)
	}
}

func TestNoTree(t *testing.T) {
	tells(t, nil, api.ErrTree)
	tells(t, []api.Node{}, api.ErrTree)
	// What is behind the end of a list is not in it.
	l := whole().nodes()
	tells(t, l[:0], api.ErrTree)
	for i := range l {
		for _, parent := range []int{i, i + 1, len(l), -2, math.MaxInt, math.MinInt, 1 << 32} {
			wrong := slices.Clone(l)
			wrong[i].Parent = parent
			tells(t, wrong, api.ErrTree)
		}
		for _, f := range []func(*part){
			func(p *part) { p.name = "" },
			func(p *part) { p.name = "1" + p.name },
			func(p *part) { p.name += " " },
			func(p *part) { p.text += "\xff" },
			func(p *part) { p.text = "\x00" },
			func(p *part) { p.attrs = []api.Attr{{Name: "xmlns", Value: "\xff"}} },
			func(p *part) { p.attrs = []api.Attr{{Name: "", Value: "urn:comptoir:caaa"}} },
			func(p *part) {
				p.attrs = []api.Attr{{Name: "xmlns", Value: "urn:comptoir:caaa"}, {Name: "xmlns", Value: "urn:comptoir:caaa"}}
			},
			func(p *part) { p.text, p.kids = " ", []part{value("a", "")} },
		} {
			tells(t, whole().turned(i, f).nodes(), api.ErrTree)
		}
	}
	tells(t, slices.Repeat([]api.Node{{Parent: -1, Name: "Document", Attrs: []api.Attr{{Name: "xmlns", Value: "urn:comptoir:caaa"}}}}, 2), api.ErrTree)
}

func TestNoTreeCountsFirst(t *testing.T) {
	// At the end stands what is no tree; all ahead of it is no model's.
	for _, first := range []part{value("a", ""), outer("Document"), outer("Hdr", value("b", "")), document(outer("Hdr", value("MsgFctn", "?")), outer("Body"))} {
		l := append(first.nodes(), api.Node{Parent: 99, Name: "z"})
		tells(t, l, api.ErrTree)
		tells(t, l[:len(l)-1], api.ErrModel)
	}
	wide := small()
	for len(wide.nodes()) < 500 {
		wide.kids = append(wide.kids, value("a", "x"))
	}
	tells(t, wide.nodes(), api.ErrModel)
	tells(t, append(wide.nodes(), api.Node{Name: "a"}), api.ErrTree)
	deep := outer("a")
	for range 30 {
		deep = outer("a", deep)
	}
	tells(t, document(deep).nodes(), api.ErrModel)
	tells(t, document(outer("a", deep)).nodes(), api.ErrTree)
}

func TestTheFirstOne(t *testing.T) {
	for _, name := range []string{"Doc", "document", "DOCUMENT", "Documents", "Hdr", "Body", "OrgnlTx", "SplmtryData", "Note", "a", "xmlns"} {
		tells(t, small().turned(0, func(p *part) { p.name = name }).nodes(), api.ErrModel)
		// Not even if it is all that its own model has.
		for _, p := range each(whole()) {
			if p.name == name {
				p.attrs = document().attrs
				tells(t, p.nodes(), api.ErrModel)
			}
		}
	}
	for _, l := range [][]api.Attr{
		nil,
		{{Name: "xmlns", Value: ""}}, {{Name: "xmlns", Value: "urn:comptoir"}}, {{Name: "xmlns", Value: "urn:comptoir:caa"}}, {{Name: "xmlns", Value: "urn:comptoir:caaa "}}, {{Name: "xmlns", Value: " urn:comptoir:caaa"}}, {{Name: "xmlns", Value: "URN:comptoir:caaa"}}, {{Name: "xmlns", Value: "urn:comptoir:caaaa"}}, {{Name: "xmlns", Value: "urn:comptoir:caab"}}, {{Name: "xmlns", Value: "xmlns"}},
		{{Name: "xml", Value: "urn:comptoir:caaa"}}, {{Name: "Xmlns", Value: "urn:comptoir:caaa"}}, {{Name: "xmlns:a", Value: "urn:comptoir:caaa"}}, {{Name: "a", Value: "urn:comptoir:caaa"}},
		{{Name: "xmlns", Value: "urn:comptoir:caaa"}, {Name: "a", Value: ""}}, {{Name: "a", Value: "1"}, {Name: "xmlns", Value: "urn:comptoir:caaa"}}, {{Name: "xmlns", Value: "urn:comptoir:caaa"}, {Name: "Xmlns", Value: "urn:comptoir:caaa"}},
	} {
		tells(t, small().turned(0, func(p *part) { p.attrs = l }).nodes(), api.ErrModel)
		tells(t, whole().turned(0, func(p *part) { p.attrs = l }).nodes(), api.ErrModel)
	}
	tells(t, whole().turned(0, func(p *part) { p.attrs = slices.Grow(p.attrs, 4) }).nodes(), api.OK)
}

func TestNoOtherOneHasAttributes(t *testing.T) {
	for i := range whole().nodes() {
		if i == 0 {
			continue
		}
		for _, l := range [][]api.Attr{{{Name: "a", Value: "1"}}, {{Name: "xmlns", Value: "urn:comptoir:caaa"}}, {{Name: "a", Value: ""}}, {{Name: "a", Value: "1"}, {Name: "b", Value: "2"}}} {
			tells(t, whole().turned(i, func(p *part) { p.attrs = l }).nodes(), api.ErrModel)
		}
		tells(t, whole().turned(i, func(p *part) { p.attrs = []api.Attr{} }).nodes(), api.OK)
	}
}

func TestEachChildMissing(t *testing.T) {
	for i, p := range each(whole()) {
		for k := range p.kids {
			want := api.ErrModel
			if p.name == "Body" {
				want = api.OK
			}
			tells(t, whole().turned(i, func(p *part) { p.kids = slices.Delete(p.kids, k, k+1) }).nodes(), want)
		}
		if len(p.kids) > 0 && p.name != "Body" {
			tells(t, whole().turned(i, func(p *part) { p.kids = nil }).nodes(), api.ErrModel)
		}
	}
}

func TestEachChildMoreThanOnce(t *testing.T) {
	file := whole()
	for i, p := range file.parts() {
		for k, c := range p.kids {
			for _, at := range []int{0, k, k + 1, len(p.kids)} {
				want := api.ErrModel
				if c.name == "SplmtryData" && (at == k || at == k+1) {
					want = api.OK
				}
				tells(t, file.turned(i, func(p *part) { p.kids = slices.Insert(p.kids, at, c.clone()) }).nodes(), want)
			}
			if c.name != "SplmtryData" {
				// Nor often, in the place of all others.
				for _, n := range []int{2, 3, 8, 9} {
					tells(t, file.turned(i, func(p *part) { p.kids = slices.Repeat([]part{c}, n) }).nodes(), api.ErrModel)
				}
			}
		}
	}
}

func TestChildrenInAnotherOrder(t *testing.T) {
	file := whole()
	for i, p := range file.parts() {
		for k := range p.kids {
			for m := range k {
				tells(t, file.turned(i, func(p *part) { p.kids[k], p.kids[m] = p.kids[m], p.kids[k] }).nodes(), api.ErrModel)
				// And with none but these two.
				tells(t, file.turned(i, func(p *part) { p.kids = []part{p.kids[k], p.kids[m]} }).nodes(), api.ErrModel)
				want := api.ErrModel
				if p.name == "Body" || len(p.kids) == 2 {
					want = api.OK
				}
				tells(t, file.turned(i, func(p *part) { p.kids = []part{p.kids[m], p.kids[k]} }).nodes(), want)
			}
		}
		if len(p.kids) > 1 {
			tells(t, file.turned(i, func(p *part) { slices.Reverse(p.kids) }).nodes(), api.ErrModel)
		}
	}
}

func TestChildrenThatNoModelNamesThere(t *testing.T) {
	file, all := whole(), models(t)
	strange := []part{value("a", ""), value("Nt", "x"), value("note", "x"), outer("x:Note"), outer("Other"), outer("Document"), document(header(), outer("Body"))}
	for _, p := range file.parts() {
		strange = append(strange, p.clone())
	}
	for i, p := range file.parts() {
		for _, x := range strange {
			if slices.ContainsFunc(all[p.name], func(c api.Child) bool { return c.Name == x.name }) {
				continue
			}
			for k := range len(p.kids) + 1 {
				// An element with a text has no others in it: that would be no tree.
				tells(t, file.turned(i, func(p *part) { p.text, p.kids = "", slices.Insert(p.kids, k, x.clone()) }).nodes(), api.ErrModel)
			}
			for k := range p.kids {
				tells(t, file.turned(i, func(p *part) { p.kids[k] = x.clone() }).nodes(), api.ErrModel)
			}
		}
	}
}

func TestEachChildByAnotherName(t *testing.T) {
	file := whole()
	for i, p := range file.parts() {
		for _, name := range []string{strings.ToLower(p.name), strings.ToUpper(p.name), p.name + "s", p.name[1:], p.name + ".", p.name + ":" + p.name, "Note", "Body", "Nm", "XchgId"} {
			// Some are so in capitals alone.
			if name != p.name {
				tells(t, file.turned(i, func(p *part) { p.name = name }).nodes(), api.ErrModel)
			}
		}
	}
}

func TestAllSetsOfChildrenOfABody(t *testing.T) {
	all := body().kids
	for set := range 1 << len(all) {
		file := small()
		for k, c := range all {
			if set>>k&1 == 1 {
				file.kids[1].kids = append(file.kids[1].kids, c)
			}
		}
		tells(t, file.nodes(), api.OK)
	}
}

func TestPairs(t *testing.T) {
	for n := range 20 {
		want := api.OK
		if n > 8 {
			want = api.ErrModel
		}
		many := slices.Repeat([]part{pair()}, n)
		tells(t, document(header(), outer("Body", many...)).nodes(), want)
		file := whole()
		at := slices.IndexFunc(file.kids[1].kids, func(p part) bool { return p.name == "SplmtryData" })
		file.kids[1].kids = slices.Replace(file.kids[1].kids, at, at+1, many...)
		tells(t, file.nodes(), want)
		// Apart from each other, even two are too many.
		for k := range many {
			apart := slices.Insert(slices.Clone(many), k, value("RsdlKey", "00000000"))
			tells(t, document(header(), outer("Body", apart...)).nodes(), api.ErrModel)
		}
	}
	for k := range 8 {
		many := slices.Repeat([]part{pair()}, 8)
		for _, r := range []struct {
			p    part
			want api.Errno
		}{{outer("SplmtryData"), api.ErrModel}, {value("SplmtryData", "x"), api.ErrModel}, {outer("SplmtryData", value("Nm", "a"), value("Val", "")), api.ErrType}, {outer("SplmtryData", value("Nm", ""), value("Val", "a")), api.ErrType}, {outer("SplmtryData", value("Val", "a"), value("Nm", "a")), api.ErrModel}} {
			many[k] = r.p
			tells(t, document(header(), outer("Body", many...)).nodes(), r.want)
		}
	}
}

func TestTextsOfThoseWithAModel(t *testing.T) {
	blanks := []string{" ", "\t", "\n", "\r", "\r\n", " \t\n\r ", strings.Repeat(" ", 9_999)}
	others := []string{"x", "0", ".", " x", "x ", "\n.\n", "\u00a0", "\u2003", "\ufeff", "\u0085", "&", "<Note/>"}
	for _, s := range blanks {
		tells(t, document(header(), value("Body", s)).nodes(), api.OK)
	}
	for _, s := range others {
		tells(t, document(header(), value("Body", s)).nodes(), api.ErrModel)
	}
	for i, p := range each(whole()) {
		if len(p.kids) == 0 || p.name == "Body" {
			continue
		}
		for _, s := range append(blanks, others...) {
			// Without its kids no text serves.
			tells(t, whole().turned(i, func(p *part) { p.text, p.kids = s, nil }).nodes(), api.ErrModel)
			tells(t, whole().turned(i, func(p *part) { p.text = s }).nodes(), api.ErrTree)
		}
	}
}

func TestThoseWithAValueHaveNothingInThem(t *testing.T) {
	all := simples(t)
	for i, p := range each(whole()) {
		if _, is := all[p.name]; !is {
			continue
		}
		for _, x := range []part{value("a", ""), value("a", "x"), value(p.name, p.text), header(), body(), pair(), value("Note", "x")} {
			tells(t, whole().turned(i, func(p *part) { p.text, p.kids = "", []part{x} }).nodes(), api.ErrModel)
			tells(t, whole().turned(i, func(p *part) { p.text, p.kids = "", []part{x, x} }).nodes(), api.ErrModel)
		}
	}
}

// lengths are good values of a child, from its least to its greatest length, and some that are wrong.
func lengths(c api.Child) (good, wrong []string) {
	signs := map[int][]string{1: {"0", "9"}, 2: {"x", "é", "€", "😀"}, 6: {"a", "Z", "5"}, 7: {"0", "F"}}
	for _, sign := range signs[c.Type] {
		good = append(good, strings.Repeat(sign, c.Low), strings.Repeat(sign, c.Top))
		wrong = append(wrong, strings.Repeat(sign, c.Low-1), strings.Repeat(sign, c.Top+1), strings.Repeat(sign, c.Top+2), strings.Repeat(sign, c.Top-1)+"\n", " "+strings.Repeat(sign, c.Top-1))
	}
	switch c.Type {
	case api.SNumber:
		wrong = append(wrong, strings.Repeat("1", c.Top-1)+"x", "-"+strings.Repeat("1", c.Top-1), strings.Repeat("1", c.Low-1)+"x", strings.Repeat("1", c.Top-1)+".")
	case api.SCode:
		good = append(good, "AAAA", "ZZZZ", "APPR")
		wrong = append(wrong, "AAA", "AAAAA", "aaaa", "AAA1", "AAA ", "AAAa")
	case api.STime:
		good = append(good, "0001-01-01T00:00:00", "9999-12-31T23:59:59", "2024-02-29T12:00:00")
		wrong = append(wrong, "0000-01-01T00:00:00", "2026-02-29T12:00:00", "2026-01-01T24:00:00", "2026-01-01 12:00:00", "20260101120000", "2026-01-01T12:00:00Z", "1111111111111111111")
	case api.SAmount:
		good = append(good, "0.00", "0.01", "9.99", "10.00", "9999999999.99")
		wrong = append(wrong, "0", "1.0", "00.00", "0.000", ".00", "10000000000.00", "1,00", "-1.00", "1.00 ")
	case api.SAlnum:
		wrong = append(wrong, strings.Repeat("a", c.Top-1)+".", strings.Repeat("a", c.Top-2)+"é")
	case api.SHex:
		wrong = append(wrong, strings.Repeat("a", c.Top), strings.Repeat("0", c.Top-1)+"G", strings.Repeat("0", c.Top-1)+"f", "0")
	}
	return good, append(wrong, "", " ", "\n")
}

func TestValues(t *testing.T) {
	all := simples(t)
	file := whole()
	seen := map[string]int{}
	for i, p := range file.parts() {
		c, is := all[p.name]
		if !is {
			continue
		}
		seen[p.name]++
		good, wrong := lengths(c)
		for _, s := range good {
			tells(t, file.turned(i, func(p *part) { p.text = s }).nodes(), api.OK)
		}
		for _, s := range wrong {
			tells(t, file.turned(i, func(p *part) { p.text = s }).nodes(), api.ErrType)
		}
	}
	if len(seen) != 20 || seen["XchgId"] != 2 || seen["CreDtTm"] != 2 {
		t.Errorf("of those with a value these were asked: %v", seen)
	}
}

// fault is a turn of a file, at a place, by which Check tells an error of the node at that place.
type fault struct {
	at   int
	turn func(*part)
	e    api.Errno
}

// faults are those that each node of a file may have.
func faults(t *testing.T, file part) []fault {
	t.Helper()
	var out []fault
	for i, p := range file.parts() {
		if i > 0 {
			out = append(out, fault{i, func(p *part) { p.attrs = []api.Attr{{Name: "a", Value: "1"}} }, api.ErrModel})
		}
		if _, is := simples(t)[p.name]; is {
			out = append(out, fault{i, func(p *part) { p.text = "\n" }, api.ErrType}, fault{i, func(p *part) { p.text, p.kids = "", []part{value("a", "")} }, api.ErrModel})
		} else {
			out = append(out, fault{i, func(p *part) { p.kids = append(p.kids, value("Document", "")) }, api.ErrModel})
		}
	}
	return out
}

func TestTheFirstFaultCounts(t *testing.T) {
	file := whole()
	all := faults(t, file)
	for _, x := range all {
		tells(t, file.turned(x.at, x.turn).nodes(), x.e)
		for _, y := range all {
			if x.at < y.at {
				// The later one first: what is put in ahead of it would turn its place.
				tells(t, file.turned(y.at, y.turn).turned(x.at, x.turn).nodes(), x.e)
			}
		}
	}
	// One node with all that may be wrong: what is no model's counts ahead of its value.
	for i, p := range file.parts() {
		if _, is := simples(t)[p.name]; is {
			tells(t, file.turned(i, func(p *part) { p.attrs, p.text = document().attrs, "\n" }).nodes(), api.ErrModel)
			tells(t, file.turned(i, func(p *part) { p.text, p.kids = "", []part{value("a", "\n")} }).nodes(), api.ErrModel)
		}
	}
	// Those in it are asked later, wherever it is wrong itself.
	at := file.place(t, 0, "OrgnlTx")
	bad := file.turned(at+1, func(p *part) { p.text = "" })
	tells(t, bad.nodes(), api.ErrType)
	tells(t, bad.turned(at, func(p *part) { slices.Reverse(p.kids) }).nodes(), api.ErrModel)
	tells(t, bad.turned(file.place(t, at, "RsdlKey"), func(p *part) { p.kids, p.text = []part{value("a", "")}, "" }).nodes(), api.ErrType)
}

// agrees fails unless Check of l answers what the chapter tells.
func agrees(t *testing.T, all map[string][]api.Child, values map[string]api.Child, l []api.Node) api.Errno {
	t.Helper()
	want := expected(values, l)
	tells(t, l, want)
	if model.Check(l) == api.OK {
		named(t, all, l)
	}
	return want
}

// chance is a part of that name as the models have it, but for chance.
func chance(r *rand.Rand, all map[string][]api.Child, name string) part {
	p := part{name: name}
	for _, c := range all[name] {
		n := 1
		if c.Min == 0 {
			n = r.Intn(2) * (1 + r.Intn(c.Max))
		}
		for range n {
			k := chance(r, all, c.Name)
			if c.Type != 8 {
				good, _ := lengths(c)
				k.text = good[r.Intn(len(good))]
			}
			p.kids = append(p.kids, k)
		}
	}
	return p
}

// turn turns a part in one of many ways.
func turn(r *rand.Rand, p *part) {
	names := []string{"Document", "Hdr", "Body", "Note", "PAN", "XchgId", "CreDtTm", "OrgnlTx", "SplmtryData", "Nm", "Val", "a"}
	texts := []string{"", " ", "\n\t", "x", "1", "APPR", "2026-01-02T03:04:05", "00000000", "123456"}
	switch n := len(p.kids); r.Intn(6) {
	case 0:
		p.name = names[r.Intn(len(names))]
	case 1:
		p.text = texts[r.Intn(len(texts))]
	case 2:
		p.attrs = append(p.attrs, api.Attr{Name: names[r.Intn(len(names))], Value: "1"})
	case 3:
		p.kids = slices.Insert(p.kids, r.Intn(n+1), value(names[r.Intn(len(names))], texts[r.Intn(len(texts))]))
	case 4:
		if n > 0 {
			k := r.Intn(n)
			p.kids = slices.Delete(p.kids, k, k+1)
		}
	case 5:
		if n > 0 {
			k, m := r.Intn(n), r.Intn(n)
			p.kids[k], p.kids[m] = p.kids[m], p.kids[k]
		}
	}
}

func TestChanceFiles(t *testing.T) {
	r := rand.New(rand.NewSource(12))
	all, values := models(t), simples(t)
	told := map[api.Errno]int{}
	for range 3_000 {
		file := chance(r, all, "Document")
		file.attrs = document().attrs
		tells(t, file.nodes(), api.OK)
		agrees(t, all, values, file.nodes())
		for range 6 {
			turn(r, file.parts()[r.Intn(len(file.parts()))])
			told[agrees(t, all, values, file.nodes())]++
		}
	}
	for _, e := range []api.Errno{api.OK, api.ErrTree, api.ErrModel, api.ErrType} {
		if told[e] < 100 {
			t.Errorf("error %d was told %d times", e, told[e])
		}
	}
}

func TestAllShortBodies(t *testing.T) {
	all, values := models(t), simples(t)
	parts := []part{value("PAN", "400000123456"), value("Note", "x"), pair(), outer("OrgnlTx"), value("RsdlKey", "x"), value("XchgId", "1"), outer("Body")}
	rows := [][]part{nil}
	for range 5 {
		var longer [][]part
		for _, l := range rows {
			agrees(t, all, values, document(header(), outer("Body", l...)).nodes())
			for _, p := range parts {
				longer = append(longer, append(slices.Clip(l), p))
			}
		}
		rows = longer
	}
}

func TestNodesThatNoTreeHas(t *testing.T) {
	r := rand.New(rand.NewSource(13))
	all, values := models(t), simples(t)
	names := []string{"Document", "Hdr", "Body", "Note", "a", ""}
	for range 20_000 {
		l := make([]api.Node, r.Intn(6))
		for i := range l {
			l[i] = api.Node{Parent: r.Intn(8) - 2, Name: names[r.Intn(6)], Text: []string{"", "x", "\xff"}[r.Intn(3)]}
		}
		agrees(t, all, values, l)
	}
	for i, n := range whole().nodes() {
		// Cut short, or with none ahead.
		agrees(t, all, values, whole().nodes()[:i])
		agrees(t, all, values, whole().nodes()[i:])
		n.Parent = -1
		agrees(t, all, values, []api.Node{n})
	}
}

func TestTheSameIsToldAlike(t *testing.T) {
	good, wrong := whole().nodes(), document(header(), outer("Body", value("Note", ""))).nodes()
	for range 9 {
		tells(t, good, api.OK)
		tells(t, wrong, api.ErrType)
		tells(t, small().nodes(), api.OK)
		tells(t, nil, api.ErrTree)
		tells(t, wrong[:len(wrong)-2], api.ErrModel)
	}
}

func TestWhatIsHandedInStays(t *testing.T) {
	file := whole()
	file.attrs = append(slices.Clone(file.attrs), api.Attr{Name: "room", Value: "1"})[:1]
	made := func() []api.Node {
		l := file.nodes()
		l[0].Attrs = append(slices.Clone(file.attrs[:2]), api.Attr{Name: "more"})[:1]
		return append(l, api.Node{Name: "room", Parent: 7}, api.Node{Name: "room", Text: "x"})
	}
	for _, n := range []int{0, 1, 2, 9, len(file.nodes()), len(file.nodes()) + 1} {
		l := made()
		model.Check(l[:n])
		if !reflect.DeepEqual(l, made()) || !reflect.DeepEqual(l[0].Attrs[:3], made()[0].Attrs[:3]) {
			t.Errorf("after Check of the first %d: %s", n, short(l))
		}
	}
	// What is behind the end plays no part.
	tells(t, made()[:len(file.nodes())], api.OK)
	tells(t, made()[:len(file.nodes())-1], api.OK)
}
