package token_test

import (
	"fmt"
	"math/rand"
	"reflect"
	"regexp"
	"slices"
	"strconv"
	"strings"
	"testing"
	"unicode/utf8"

	"comptoir/api"
	"comptoir/token"
)

const prolog = `<?xml version="1.0" encoding="UTF-8"?>`

// open is an Open that is not Empty, with attributes of such names and values by turns.
func open(name string, attrs ...string) api.Token {
	t := api.Token{Kind: api.Open, Name: name}
	for i := 0; i < len(attrs); i += 2 {
		t.Attrs = append(t.Attrs, api.Attr{Name: attrs[i], Value: attrs[i+1]})
	}
	return t
}

// empty is an Open that is Empty.
func empty(name string, attrs ...string) api.Token {
	t := open(name, attrs...)
	t.Empty = true
	return t
}

// end is a Close.
func end(name string) api.Token {
	return api.Token{Kind: api.Close, Name: name}
}

// words is a Text.
func words(s string) api.Token {
	return api.Token{Kind: api.Text, Text: s}
}

// same tells whether both have the same pieces.
func same(x, y []api.Token) bool {
	return slices.EqualFunc(x, y, func(a, b api.Token) bool {
		attrs := slices.Equal(a.Attrs, b.Attrs)
		a.Attrs, b.Attrs = nil, nil
		return attrs && reflect.DeepEqual(a, b)
	})
}

// short names a file in what a test tells.
func short(s string) string {
	if len(s) > 80 {
		s = s[:80] + ".. (" + strconv.Itoa(len(s)) + " bytes)"
	}
	return strconv.QuoteToASCII(s)
}

// told names pieces in what a test tells.
func told(l []api.Token) string {
	s := fmt.Sprintf("%+v", l)
	return strconv.Itoa(len(l)) + " of them: " + short(s)
}

// tells fails unless Tokens of s answers just these.
func tells(t *testing.T, s string, want ...api.Token) {
	t.Helper()
	if got, e := token.Tokens(s); !same(got, want) || e != api.OK {
		t.Errorf("Tokens of %s: %s, error %d; want %s", short(s), told(got), e, told(want))
	}
}

// refuses fails unless Tokens of s answers that error alone.
func refuses(t *testing.T, s string, want api.Errno) {
	t.Helper()
	if got, e := token.Tokens(s); len(got) > 0 || e != want {
		t.Errorf("Tokens of %s: %s, error %d; want error %d", short(s), told(got), e, want)
	}
}

// wrong fails unless Tokens of s answers ErrToken.
func wrong(t *testing.T, s string) {
	t.Helper()
	refuses(t, s, api.ErrToken)
}

// gaps are no blank, each kind of them, and many.
func gaps() []string {
	return append(blanks(), "")
}

// blanks are each kind of blanks, and many.
func blanks() []string {
	return []string{" ", "\t", "\n", "\r", "  ", "\r\n", " \t\n\r \t\n\r ", strings.Repeat(" ", 300)}
}

// letters are all that a name may begin with.
const letters = "ABCDEFGHIJKLMNOPQRSTUVWXYZabcdefghijklmnopqrstuvwxyz_"

// behind are all that may stand in a name behind its beginning.
const behind = letters + "0123456789-.:"

// What a file is made of, told by patterns, held against what is told by steps.
const (
	pName  = `[A-Za-z_][A-Za-z0-9_.:-]*`
	pBlank = `[\t\n\r ]`
	pValue = `"[^<"]*"|'[^<']*'`
)

var (
	pClose = regexp.MustCompile(`^</(` + pName + `)` + pBlank + `*>`)
	pAttr  = regexp.MustCompile(pBlank + `+(` + pName + `)` + pBlank + `*=` + pBlank + `*(` + pValue + `)`)
	pOpen  = regexp.MustCompile(`^<(` + pName + `)((?:` + pAttr.String() + `)*)` + pBlank + `*(/?)>`)
	pText  = regexp.MustCompile(`^[^<]+`)
	pSign  = regexp.MustCompile(`&(?:(lt|gt|amp|quot|apos)|#([0-9]{1,7})|#x([0-9A-Fa-f]{1,6}));|&`)
)

// lets tells whether the document lets character c.
func lets(c int64) bool {
	switch {
	case c == 9 || c == 10 || c == 13:
		return true
	case c < 32 || c > 1_114_111 || c >= 55_296 && c <= 57_343:
		return false
	}
	return c != 65_534 && c != 65_535
}

// valued is a value of text by the patterns.
func valued(s string) (string, bool) {
	right := true
	out := pSign.ReplaceAllStringFunc(s, func(sign string) string {
		m := pSign.FindStringSubmatch(sign)
		if m[1] != "" {
			return map[string]string{"lt": "<", "gt": ">", "amp": "&", "quot": `"`, "apos": "'"}[m[1]]
		}
		n := int64(-1)
		if m[2] != "" {
			n, _ = strconv.ParseInt(m[2], 10, 64)
		}
		if m[3] != "" {
			n, _ = strconv.ParseInt(m[3], 16, 64)
		}
		if !lets(n) {
			right = false
			return ""
		}
		return string(rune(n))
	})
	return out, right
}

// texts tells whether the document takes s as a text.
func texts(s string) bool {
	for _, c := range s {
		if !lets(int64(c)) {
			return false
		}
	}
	return utf8.ValidString(s)
}

// expected is what the patterns tell of s.
func expected(s string) ([]api.Token, api.Errno) {
	if len(s) > 4_096 {
		return nil, api.ErrBig
	}
	if !texts(s) {
		return nil, api.ErrUtf
	}
	var out []api.Token
	s = strings.TrimPrefix(s, prolog)
	for s != "" {
		t, n := piece(s)
		if n == 0 {
			return nil, api.ErrToken
		}
		out = append(out, t)
		s = s[n:]
	}
	return out, api.OK
}

// piece is the first piece of s by the patterns, and how long it is; 0: there is none.
func piece(s string) (api.Token, int) {
	if m := pClose.FindStringSubmatch(s); m != nil {
		return end(m[1]), len(m[0])
	}
	if m := pOpen.FindStringSubmatch(s); m != nil {
		t := open(m[1])
		t.Empty = m[len(m)-1] == "/"
		for _, a := range pAttr.FindAllStringSubmatch(m[2], -1) {
			v, ok := valued(a[2][1 : len(a[2])-1])
			if !ok || slices.ContainsFunc(t.Attrs, func(b api.Attr) bool { return b.Name == a[1] }) {
				return api.Token{}, 0
			}
			t.Attrs = append(t.Attrs, api.Attr{Name: a[1], Value: v})
		}
		return t, len(m[0])
	}
	m := pText.FindString(s)
	v, ok := valued(m)
	if !ok {
		return api.Token{}, 0
	}
	return words(v), len(m)
}

// agrees fails unless Tokens of s answers what the patterns tell.
func agrees(t *testing.T, s string) {
	t.Helper()
	want, fault := expected(s)
	if got, e := token.Tokens(s); !same(got, want) || e != fault {
		t.Fatalf("Tokens of %s: %s, error %d; want %s, error %d", short(s), told(got), e, told(want), fault)
	}
}

func TestTheChaptersExample(t *testing.T) {
	tells(t, "<a>x</a>", open("a"), words("x"), end("a"))
}

func TestNoByte(t *testing.T) {
	tells(t, "")
}

func TestAsManyBytesAsMayBeAndOneMore(t *testing.T) {
	for _, sign := range []string{"x", " ", ">", "é", "€", "😀"} {
		s := strings.Repeat(sign, 4_096/len(sign))
		s += strings.Repeat("x", 4_096-len(s))
		tells(t, s, words(s))
		refuses(t, s+"x", api.ErrBig)
		refuses(t, s+s, api.ErrBig)
	}
	n := strings.Repeat("n", 4_093)
	tells(t, "<"+n+"/>", empty(n))
	refuses(t, "<n"+n+"/>", api.ErrBig)
	// What is passed over, and what is told by fewer bytes than it takes, counts too.
	x := strings.Repeat("x", 4_096-len(prolog))
	tells(t, prolog+x, words(x))
	refuses(t, prolog+x+"x", api.ErrBig)
	tells(t, strings.Repeat("&lt;", 1_024), words(strings.Repeat("<", 1_024)))
	refuses(t, strings.Repeat("&lt;", 1_024)+"x", api.ErrBig)
	many := strings.Repeat("<a/>", 1_024)
	tells(t, many, slices.Repeat([]api.Token{empty("a")}, 1_024)...)
	refuses(t, many+">", api.ErrBig)
}

func TestTheErrorThatIsNamedFirstCounts(t *testing.T) {
	refuses(t, strings.Repeat("\xff", 4_097), api.ErrBig)
	refuses(t, strings.Repeat("<", 4_097), api.ErrBig)
	refuses(t, strings.Repeat("<", 4_096), api.ErrToken)
	refuses(t, strings.Repeat("\xff", 4_096), api.ErrUtf)
	for _, bad := range []string{"<", "&", "<a b='1' b='2'>", "</>"} {
		refuses(t, bad+"\xff", api.ErrUtf)
		refuses(t, "\x01"+bad, api.ErrUtf)
		refuses(t, "<a/>"+bad+strings.Repeat("x", 4_096)+"\xff", api.ErrBig)
	}
}

func TestBytesThatAreNoText(t *testing.T) {
	for _, bad := range []string{"\x00", "\x01", "\x08", "\x0b", "\x0c", "\x0e", "\x1f", "\x80", "\xbf", "\xc0\x80", "\xc3", "\xe2\x82", "\xed\xa0\x80", "\xf4\x90\x80\x80", "\xff", "\ufffe", "\uffff"} {
		for _, r := range [][2]string{{"", ""}, {"x", "x"}, {"<a", ">"}, {"<", "/>"}, {"<a ", "='1'>"}, {"<a b='", "'>"}, {"</a", ">"}, {"&", ";"}, {prolog, ""}, {"", prolog}, {"<a>x</a>", ""}, {"", "<a>x</a>"}} {
			refuses(t, r[0]+bad+r[1], api.ErrUtf)
		}
	}
	// A character that is cut is none, though both ends are there.
	tells(t, "<a>é</a>", open("a"), words("é"), end("a"))
	refuses(t, "\xc3<a>\xa9</a>", api.ErrUtf)
}

func TestTheProlog(t *testing.T) {
	tells(t, prolog)
	tells(t, prolog+"x", words("x"))
	tells(t, prolog+"<a>x</a>", open("a"), words("x"), end("a"))
	tells(t, prolog+"\r\n<a/>\n", words("\r\n"), empty("a"), words("\n"))
	for n := 1; n < len(prolog); n++ {
		wrong(t, prolog[:n])
		wrong(t, prolog[:n]+"<a/>")
		wrong(t, prolog[:n]+prolog[n+1:]+"<a/>")
	}
	// Without its first sign it is a text, as "?" and ">" are.
	tells(t, prolog[1:]+"<a/>", words(prolog[1:]), empty("a"))
	wrong(t, prolog+prolog)
	wrong(t, prolog+prolog+"<a/>")
	wrong(t, "<a/>"+prolog)
	wrong(t, "x"+prolog)
	wrong(t, "\ufeff"+prolog)
	for _, b := range blanks() {
		wrong(t, b+prolog)
		wrong(t, b+prolog+"<a/>")
		wrong(t, prolog+b+prolog)
	}
	for _, s := range []string{"<?xml version=\"1.0\"?>", "<?xml version='1.0' encoding='UTF-8'?>", "<?xml version=\"1.0\" encoding=\"utf-8\"?>", "<?xml  version=\"1.0\" encoding=\"UTF-8\"?>", "<?xml version=\"1.0\" encoding=\"UTF-8\" ?>", "<?xml version=\"1.1\" encoding=\"UTF-8\"?>", "<?XML version=\"1.0\" encoding=\"UTF-8\"?>", "<?xml encoding=\"UTF-8\" version=\"1.0\"?>", "<?a?>", "<?"} {
		wrong(t, s)
		wrong(t, s+"<a/>")
	}
}

// named fails unless n is taken as a name wherever one may stand.
func named(t *testing.T, n string) {
	t.Helper()
	tells(t, "<"+n+">", open(n))
	tells(t, "<"+n+"/>", empty(n))
	tells(t, "</"+n+">", end(n))
	tells(t, "<"+n+" "+n+"='1'/>", empty(n, n, "1"))
	tells(t, "<Q "+n+"='1' "+n+".='2'>", open("Q", n, "1", n+".", "2"))
}

// unnamed fails unless n is taken as a name nowhere.
func unnamed(t *testing.T, n string) {
	t.Helper()
	for _, s := range []string{"<" + n + ">", "<" + n + "/>", "</" + n + ">", "<Q " + n + "='1'/>", "<Q " + n + "='1'>", "<Q Q='1' " + n + "='1'>"} {
		wrong(t, s)
	}
}

func TestNames(t *testing.T) {
	for _, first := range letters {
		named(t, string(first))
		named(t, strings.Repeat(string(first), 9))
		for _, second := range behind {
			named(t, string(first)+string(second))
			named(t, string(first)+string(second)+"b")
		}
	}
	for _, n := range []string{"a1", "A_", "a-", "a.", "a:", "_", "__", "_1", "a:b", "a::b", "xml", "XML", "ns:a-b.c_9", behind, "a" + behind, strings.Repeat("a", 800), strings.Repeat("a-.:9_", 100)} {
		named(t, n)
	}
	// Names are told as they are: capitals and small letters differ.
	tells(t, "<Ab aB='1' ab='2' AB='3'></aB>", open("Ab", "aB", "1", "ab", "2", "AB", "3"), end("aB"))
}

func TestWhatIsNoName(t *testing.T) {
	for x := range 128 {
		c := string([]byte{byte(x)})
		if x < 32 && !strings.Contains("\t\n\r", c) {
			continue
		}
		if !strings.Contains(letters, c) {
			for _, n := range []string{c, c + "a"} {
				// Behind these, what is no name may be right all the same: an end, or blanks.
				if strings.Contains("/> \t\n\r", c) {
					continue
				}
				unnamed(t, n)
			}
		}
		if !strings.Contains(behind, c) && !strings.Contains("/> \t\n\r", c) {
			wrong(t, "<a"+c+"b>")
			wrong(t, "<a"+c+">")
			wrong(t, "</a"+c+"b>")
			wrong(t, "</a"+c+">")
		}
		if !strings.Contains(behind, c) && !strings.Contains("= \t\n\r", c) {
			wrong(t, "<a b"+c+"c='1'>")
			wrong(t, "<a b"+c+"='1'>")
		}
	}
	for _, n := range []string{"", "1", "9a", "-a", ".a", ":a", "-", ".", ":", "é", "éa", "aé", "a€", "Ω", "ａ", "\u00a0", "a\u00a0b", "ª", "٣a", "a٣", "\u212a", "a\u0301", "a·b", "&lt;", "a&lt;", "&#97;", "a+b", "a!b"} {
		unnamed(t, n)
	}
}

func TestBlanksWhereTheyMayStand(t *testing.T) {
	for _, b := range gaps() {
		tells(t, "</a"+b+">", end("a"))
		tells(t, "<a"+b+">", open("a"))
		tells(t, "<a"+b+"/>", empty("a"))
		tells(t, "<a b"+b+"='1'>", open("a", "b", "1"))
		tells(t, "<a b="+b+"'1'>", open("a", "b", "1"))
		tells(t, "<a b='1'"+b+">", open("a", "b", "1"))
		tells(t, "<a b='1'"+b+"/>", empty("a", "b", "1"))
		for _, c := range gaps() {
			tells(t, "<a b"+b+"="+c+"'1'/>", empty("a", "b", "1"))
			tells(t, "<a b='1' c"+c+"="+b+`"2"`+c+">", open("a", "b", "1", "c", "2"))
		}
	}
	for _, b := range blanks() {
		tells(t, b, words(b))
		tells(t, "<a>"+b+"</a>", open("a"), words(b), end("a"))
		tells(t, "<a"+b+"b='1'>", open("a", "b", "1"))
		tells(t, "<a b='1'"+b+`c="2"/>`, empty("a", "b", "1", "c", "2"))
		tells(t, "<a b='"+b+"'/>", empty("a", "b", b))
		tells(t, `<a b="`+b+`1`+b+`"/>`, empty("a", "b", b+"1"+b))
	}
}

func TestBlanksWhereTheyMayNotStand(t *testing.T) {
	for _, b := range blanks() {
		for _, s := range []string{"<" + b + "a>", "<" + b + "/>", "<" + b + "/a>", "</" + b + "a>", "</a" + b + "b>", "<a/" + b + ">", "<a b='1'/" + b + ">", "<" + b + ">", "</" + b + ">", "<a" + b + "b>", "<a b" + b + "c='1'>", "<a b='1'" + b + "'2'>", "<a b" + b + "'1'>", "<a" + b + "='1'>"} {
			wrong(t, s)
		}
	}
	// Between attributes there must be one.
	for _, s := range []string{"<a b='1'c='2'>", `<a b="1"c="2"/>`, `<a b='1'c="2">`, "<a b='1' c='2'd='3'>", "<a'1'>", "<a=''>"} {
		wrong(t, s)
	}
	// What is no blank here, though it is elsewhere.
	for _, b := range []string{"\u00a0", "\u0085", "\u2003", "\u2028", "\u3000", "\ufeff", "\u200b"} {
		for _, s := range []string{"<a" + b + ">", "<a" + b + "/>", "</a" + b + ">", "<a" + b + "b='1'>", "<a b" + b + "='1'>", "<a b=" + b + "'1'>", "<a b='1'" + b + ">"} {
			wrong(t, s)
		}
	}
}

func TestAttributes(t *testing.T) {
	tells(t, "<a>", open("a"))
	tells(t, "<a b='1'>", open("a", "b", "1"))
	tells(t, `<a b="1">`, open("a", "b", "1"))
	tells(t, `<a b='1' c="2" d='3'/>`, empty("a", "b", "1", "c", "2", "d", "3"))
	// They are told as they stand, whatever their names.
	tells(t, "<a c='1' b='2' a='3'>", open("a", "c", "1", "b", "2", "a", "3"))
	tells(t, "<a b='1' B='1' bb='1' b1='1' b.='1' b:b='1' _b='1'>", open("a", "b", "1", "B", "1", "bb", "1", "b1", "1", "b.", "1", "b:b", "1", "_b", "1"))
	s, want := "<a", open("a")
	for i := range 400 {
		n := "n" + strconv.Itoa(i)
		s += " " + n + "=''"
		want.Attrs = append(want.Attrs, api.Attr{Name: n})
	}
	tells(t, s+">", want)
	want.Empty = true
	tells(t, s+"/>", want)
	for _, i := range []int{0, 1, 200, 399} {
		wrong(t, s+" n"+strconv.Itoa(i)+"='x'>")
	}
}

func TestAttributesOfOneNameTwice(t *testing.T) {
	for _, s := range []string{"<a b='1' b='1'>", `<a b='1' b="2"/>`, "<a b='' b=''>", "<a b='1' c='2' b='3'>", "<a c='1' b='2' b='3'/>", "<a a='1' a='2'>", "<a b:c='1' b:c='2'>"} {
		wrong(t, s)
		wrong(t, "x"+s)
	}
	// Of two elements they may be alike.
	tells(t, "<a b='1'><a b='1'/>", open("a", "b", "1"), empty("a", "b", "1"))
}

func TestAttributesThatAreNotWhole(t *testing.T) {
	for _, s := range []string{"<a b>", "<a b/>", "<a b=>", "<a b=/>", "<a b= >", "<a b=1>", "<a b=1/>", "<a b=c>", "<a b='1>", `<a b="1>`, "<a b=1'>", `<a b='1">`, `<a b="1'>`, "<a b=''1>", "<a b='1''2'>", "<a b=='1'>", "<a ='1'>", "<a '1'>", "<a 'b'='1'>", "<a b='1' =>", "<a b='1' c>", "<a b='1', c='2'>", "<a b:='1' '>", "<a b=`1`>", "<a b=‘1’>", "<a b=&apos;1&apos;>", "<a b=\\'1\\'>", "<a/b='1'>", "<a b='1'/c='2'>", "<a b='1' / c='2'>", "<a /b='1'>"} {
		wrong(t, s)
	}
}

func TestValues(t *testing.T) {
	for _, v := range []string{"", "1", "=", ">", "/>", "/", "a b", "é€😀", "]]>", " ", "\t\r\n", "#", ";", "x;y", "lt;", "-->", "?", "b=", "\u007f", "\ufeff", strings.Repeat("v", 2_000)} {
		for _, q := range []string{`"`, "'"} {
			s := "<a b=" + q + v + q
			tells(t, s+">", open("a", "b", v))
			tells(t, s+"/>", empty("a", "b", v))
			tells(t, s+" c='2'>"+v, append([]api.Token{open("a", "b", v, "c", "2")}, texted(v)...)...)
		}
	}
}

// texted is a Text of s, if it is not "".
func texted(s string) []api.Token {
	if s == "" {
		return nil
	}
	return []api.Token{words(s)}
}

func TestValuesWithTheOtherQuoteAndWithTheirOwn(t *testing.T) {
	tells(t, `<a b='"'>`, open("a", "b", `"`))
	tells(t, `<a b="'">`, open("a", "b", "'"))
	tells(t, `<a b='""' c="''"/>`, empty("a", "b", `""`, "c", "''"))
	tells(t, `<a b='c="1"'/>`, empty("a", "b", `c="1"`))
	tells(t, `<a b='&apos;&quot;' c="&apos;&quot;">`, open("a", "b", `'"`, "c", `'"`))
	for _, s := range []string{"<a b='''>", `<a b="""/>`, "<a b='1'2'>", `<a b="1"2"/>`, `<a b='1" c='2'>`} {
		wrong(t, s)
	}
	// One that lacks its quote goes on to the next one.
	tells(t, `<a b='1> c='>`, open("a", "b", "1> c="))
}

func TestValuesWithASignThatMustBeEscaped(t *testing.T) {
	for _, q := range []string{`"`, "'"} {
		for _, v := range []string{"<", "1<", "<1", "1<2", "<a/>", "</a>", "<<", "&", "&&", "&amp", "1&2", "&amp;&", "& ", "& amp;", "<!-- -->"} {
			wrong(t, "<a b="+q+v+q+">")
			wrong(t, "<a b="+q+v+q+"/>")
			wrong(t, "<a c='1' b="+q+v+q+"/>")
		}
		tells(t, "<a b="+q+"&lt;a/&gt;&amp;amp;"+q+"/>", empty("a", "b", "<a/>&amp;"))
	}
}

func TestOpensThatAreEmptyAndThatAreNot(t *testing.T) {
	tells(t, "<a/>", empty("a"))
	tells(t, "<a>", open("a"))
	tells(t, "<a/><a>", empty("a"), open("a"))
	tells(t, "<a b='/'>", open("a", "b", "/"))
	tells(t, "<a/>/>", empty("a"), words("/>"))
	for _, s := range []string{"<a/", "<a", "<a//>", "<a/ >", "<a/>/<", "<a/b>", "<a/b/>", "</>", "<>", "<a\\>"} {
		wrong(t, s)
	}
}

func TestCloses(t *testing.T) {
	tells(t, "</a>", end("a"))
	tells(t, "</a></a>", end("a"), end("a"))
	tells(t, "</a>>", end("a"), words(">"))
	for _, s := range []string{"</a b='1'>", "</a b=\"1\">", "</a b>", "</a/>", "</a />", "</a", "</a ", "</", "</>", "<//a>", "</a<", "</a</a>", "<a></", "</a b='1'/>", "</a '>", "</&lt;>", "</a.b c>"} {
		wrong(t, s)
	}
}

func TestTexts(t *testing.T) {
	for x := range 127 {
		c := byte(x)
		s := string([]byte{c})
		switch {
		case c == '<' || c == '&':
			wrong(t, s)
			wrong(t, "x"+s)
		case c < 32 && c != 9 && c != 10 && c != 13:
			refuses(t, s, api.ErrUtf)
		default:
			tells(t, s, words(s))
			tells(t, s+s, words(s+s))
			tells(t, "<a/>"+s, empty("a"), words(s))
			tells(t, s+"<a/>", words(s), empty("a"))
			tells(t, "</a>"+s+"</b>", end("a"), words(s), end("b"))
		}
	}
	for _, s := range []string{"x", "comptoir", " x ", "\r\n", "]]>", "a>b", "'", `"a"`, "é€😀", "/>", "=", "a b='1'", "lt;", "#65;", "?>", "-->", "\ufeff", "\u0085\u2028", strings.Repeat("é ", 600)} {
		tells(t, s, words(s))
		tells(t, s+"<a>", words(s), open("a"))
		tells(t, "<a>"+s+"</a>"+s, open("a"), words(s), end("a"), words(s))
	}
	// Where a text ends what begins there must be whole.
	for _, s := range []string{"x<", "x<<", "x<y", "x < y", "x<1>", "<a>x<", "<a>x</"} {
		wrong(t, s)
	}
}

func TestWhatOtherFilesMayHave(t *testing.T) {
	for _, s := range []string{"<!-- x -->", "<!---->", "<!DOCTYPE a>", "<![CDATA[x]]>", "<?a b?>", "<!ELEMENT a ANY>", "<!ENTITY a 'b'>", "<%a%>"} {
		wrong(t, s)
		wrong(t, "<a>"+s+"</a>")
		wrong(t, prolog+s+"<a/>")
	}
}

// said fails unless what is escaped so is told as that sign, wherever a value of text may stand.
func said(t *testing.T, escaped, sign string) {
	t.Helper()
	tells(t, escaped, words(sign))
	tells(t, "x"+escaped+"y", words("x"+sign+"y"))
	tells(t, escaped+escaped, words(sign+sign))
	tells(t, "<a b='"+escaped+"'/>", empty("a", "b", sign))
	tells(t, `<a b="1`+escaped+`2">`+escaped+"</a>", open("a", "b", "1"+sign+"2"), words(sign), end("a"))
}

// unsaid fails unless what is escaped so is taken nowhere.
func unsaid(t *testing.T, escaped string) {
	t.Helper()
	for _, s := range []string{escaped, "x" + escaped + "y", "<a>" + escaped + "</a>", "&lt;" + escaped, escaped + "&lt;", "<a b='" + escaped + "'/>", `<a b="1` + escaped + `2">`, "<a b='1' c='" + escaped + "'>"} {
		wrong(t, s)
	}
}

func TestSignsByName(t *testing.T) {
	for _, r := range [][2]string{{"lt", "<"}, {"gt", ">"}, {"amp", "&"}, {"quot", `"`}, {"apos", "'"}} {
		said(t, "&"+r[0]+";", r[1])
		tells(t, "&"+r[0]+";;", words(r[1]+";"))
		for _, n := range []string{strings.ToUpper(r[0]), strings.ToUpper(r[0][:1]) + r[0][1:], r[0][1:], r[0][:len(r[0])-1], r[0] + "t", "x" + r[0], " " + r[0], r[0] + " ", "#" + r[0], r[0] + "&", "é" + r[0]} {
			unsaid(t, "&"+n+";")
		}
		unsaid(t, "&"+r[0])
		unsaid(t, "&"+r[0]+"&lt;")
	}
	for _, n := range []string{"", " ", "x", "nbsp", "copy", "a", "lt,", "65", "x41", "ltgt", "amp:lt"} {
		unsaid(t, "&"+n+";")
	}
	// What is told is told once: what comes out of it is no sign again.
	tells(t, "&amp;lt;", words("&lt;"))
	tells(t, "&amp;amp;amp;", words("&amp;amp;"))
	tells(t, "&#38;lt;&#x26;#65;", words("&lt;&#65;"))
	tells(t, "&lt;a/&gt;", words("<a/>"))
	tells(t, "<a b='&amp;lt;'/>", empty("a", "b", "&lt;"))
}

func TestAmpersandsAlone(t *testing.T) {
	for _, s := range []string{"&", "&&", "& ", "&;", "&&;", "&;;", "&&lt;", "&&&&&&", "& lt;", "&\nlt;", "&<", "&lt;&", "AT&T", "a & b", "a&b;", "&amp;&amp", "&#", "&#x", "&#;", "&#x;", "&# ;", "&#&#65;"} {
		unsaid(t, s)
	}
}

func TestTheSemicolonMustStandInTheSameValue(t *testing.T) {
	for _, s := range []string{"&lt<a/>;", "&<a/>lt;", "<a b='&lt' c=';'/>", "<a b='&lt'>;", "&lt</a>;", "<a>&#65</a>;", "<a b='&#65' c=';'/>"} {
		wrong(t, s)
	}
}

// decimals are the numbers that tell character n: in as few digits as may be, and in each more up to seven.
func decimals(n int) []string {
	return numbers(strconv.Itoa(n), "&#", 7)
}

// sixteens are likewise those in sixteens, up to six, with letters of either kind.
func sixteens(n int) []string {
	s := strconv.FormatInt(int64(n), 16)
	return append(numbers(s, "&#x", 6), numbers(strings.ToUpper(s), "&#x", 6)...)
}

// numbers are s between mark and ";", with as many noughts ahead as make at most so many digits.
func numbers(s, mark string, longest int) []string {
	var out []string
	for ; len(s) <= longest; s = "0" + s {
		out = append(out, mark+s+";")
	}
	return out
}

func TestNumbersOfCharactersThatMayBe(t *testing.T) {
	for _, n := range []int{9, 10, 13, 32, 34, 38, 39, 60, 62, 65, 127, 128, 171, 233, 255, 2_047, 2_048, 8_364, 43_981, 55_295, 57_344, 64_976, 65_279, 65_533, 65_536, 65_537, 128_512, 131_070, 131_071, 703_710, 999_999, 1_000_000, 1_048_576, 1_114_110, 1_114_111} {
		for _, s := range append(decimals(n), sixteens(n)...) {
			said(t, s, string(rune(n)))
		}
	}
	said(t, "&#xaBcDe;", "\U000ABCDE")
	said(t, "&#xfFfD;", "\ufffd")
}

func TestNumbersOfCharactersThatMayNotBe(t *testing.T) {
	for _, n := range []int{0, 1, 8, 11, 12, 14, 31, 55_296, 56_319, 56_320, 57_343, 65_534, 65_535, 1_114_112, 1_114_113, 2_097_151, 9_999_999} {
		for _, s := range append(decimals(n), sixteens(n)...) {
			unsaid(t, s)
		}
	}
	unsaid(t, "&#xffffff;")
	unsaid(t, "&#xFFFFFF;")
	// Two halves of a character are none.
	unsaid(t, "&#xD83D;&#xDE00;")
	unsaid(t, "&#55357;&#56832;")
	// Bytes of a character are told as characters of their own.
	said(t, "&#xC3;&#xA9;", "Ã©")
}

func TestEachNumberOfACharacter(t *testing.T) {
	for n := range int64(1_120_000) {
		for _, s := range []string{"&#" + strconv.FormatInt(n, 10) + ";", "&#x" + strconv.FormatInt(n, 16) + ";"} {
			l, e := token.Tokens(s)
			if lets(n) && !(e == api.OK && same(l, []api.Token{words(string(rune(n)))})) || !lets(n) && !(e == api.ErrToken && len(l) == 0) {
				t.Fatalf("Tokens of %s: %s, error %d", s, told(l), e)
			}
		}
	}
}

func TestNumbersOfTooManyDigitsAndOfNone(t *testing.T) {
	for _, s := range []string{"&#;", "&#x;", "&#00000065;", "&#000000065;", "&#11141110;", "&#01114111;", "&#x0000041;", "&#x00000041;", "&#x010FFFF;", "&#x10FFFF0;", "&#" + strings.Repeat("0", 300) + "65;", "&#x" + strings.Repeat("0", 300) + "41;", "&#4294967361;", "&#x100000041;", "&#18446744073709551681;", "&#x10000000000000041;"} {
		unsaid(t, s)
	}
}

func TestNumbersWithWhatIsNoDigit(t *testing.T) {
	for _, s := range []string{"&#a;", "&#6a;", "&#A5;", "&#xg;", "&#xG;", "&#x4g;", "&#x4 1;", "&#X41;", "&#X;", "&x41;", "&#-5;", "&#+65;", "&#-0;", "&#x+41;", "&#x-41;", "&# 65;", "&#65 ;", "&#x 41;", "&#x41 ;", "&#6_5;", "&#x4_1;", "&#0x41;", "&#x0x41;", "&#xx41;", "&#6.5;", "&#65.;", "&#6e1;", "&#0b1;", "&#0o101;", "&#65#;", "&##65;", "&#٦٥;", "&#６５;", "&#x４１;", "&#é;", "&#\t65;"} {
		unsaid(t, s)
	}
	for x := range 128 {
		c := string([]byte{byte(x)})
		if lets(int64(x)) && !strings.Contains("<0123456789", c) {
			// With "x" alone it is a number in sixteens.
			if c != "x" {
				unsaid(t, "&#"+c+"65;")
			}
			if c != ";" {
				unsaid(t, "&#6"+c+"5;")
				unsaid(t, "&#65"+c+";")
			}
			if !strings.Contains("abcdefABCDEF", c) {
				unsaid(t, "&#x"+c+"41;")
				if c != ";" {
					unsaid(t, "&#xA"+c+"1;")
					unsaid(t, "&#xA1"+c+";")
				}
			}
		}
	}
}

// escaped is s as a value of text may have it, each sign by the way that pick tells.
func escaped(s string, pick func(int) int) string {
	var out strings.Builder
	for _, c := range s {
		plain := string(c)
		if strings.ContainsRune("<&\"'", c) {
			plain = map[rune]string{'<': "&lt;", '&': "&amp;", '"': "&quot;", '\'': "&apos;"}[c]
		}
		ways := append(append([]string{plain}, decimals(int(c))...), sixteens(int(c))...)
		out.WriteString(ways[pick(len(ways))])
	}
	return out.String()
}

func TestWhatIsEscapedIsToldAsItWas(t *testing.T) {
	r := rand.New(rand.NewSource(1))
	signs := []rune("<>&\"'\t\n\r abAB09;#x=/-]é€😀\ufffd\U0010ffff")
	for range 2_000 {
		var s string
		for range 1 + r.Intn(30) {
			s += string(signs[r.Intn(len(signs))])
		}
		tells(t, escaped(s, r.Intn), words(s))
		tells(t, "<a b='"+escaped(s, r.Intn)+`' c="`+escaped(s, r.Intn)+`">`+escaped(s, r.Intn)+"</a>", open("a", "b", s, "c", s), words(s), end("a"))
	}
}

// pieces are files of one piece each, but texts.
func pieces() []string {
	return []string{"<a>", "<a/>", "</a>", "<a >", "<a\n/>", "</a\t>", "<_-.:9>", "<a b=''>", "<a b='1'/>", `<a b="1" c = '2' >`, "<a b='&lt;&#65;&#x41;'/>", "<a b='é€' c='>' />", "<abc def='/' />", "</abc.d  >"}
}

// loose are texts as they may stand in a file.
func loose() []string {
	return []string{"x", " ", "\r\n", ">", "/>", "é€😀", "&lt;", "&amp;lt;", "&#65;&#x41;", " a > b ", "]]>", "a='1'"}
}

// only is what Tokens answers of what is right.
func only(t *testing.T, s string) []api.Token {
	t.Helper()
	l, e := token.Tokens(s)
	if e != api.OK {
		t.Fatalf("Tokens of %s: error %d", short(s), e)
	}
	return l
}

func TestEachPieceCutAnywhere(t *testing.T) {
	for _, s := range pieces() {
		for n := 1; n < len(s); n++ {
			if texts(s[:n]) {
				wrong(t, s[:n])
				wrong(t, "<b/>"+s[:n])
				wrong(t, s[:n]+"<b/>")
			}
			agrees(t, s[:n])
			agrees(t, s[n:])
			for m := n + 1; m < len(s); m++ {
				agrees(t, s[:n]+s[m:])
				agrees(t, s[:m]+s[n:])
			}
		}
	}
	for _, s := range append(loose(), "&quot;", "&apos;x", "&#0000065;", "&#x10FFFF;") {
		for n := range len(s) + 1 {
			agrees(t, s[:n])
			agrees(t, s[n:])
			agrees(t, "<a>"+s[:n]+"</a>")
			agrees(t, "<a b='"+s[:n]+"'/>")
			agrees(t, "<a b='"+s[n:]+"'/>")
		}
	}
	// An escape that is cut is wrong at each place.
	for _, s := range []string{"&lt;", "&amp;", "&quot;", "&apos;", "&#0000065;", "&#x000041;"} {
		for n := 1; n < len(s); n++ {
			unsaid(t, s[:n])
		}
	}
}

func TestAFileCutAnywhere(t *testing.T) {
	s := prolog + "\n" + strings.Join(pieces(), "x&gt;") + "é"
	agrees(t, s)
	for n := range len(s) {
		agrees(t, s[:n])
		agrees(t, s[n:])
		agrees(t, s[:n]+s[n+1:])
		agrees(t, s[:n]+s[n:n+1]+s[n:])
	}
}

func TestPiecesOneBehindTheOtherAreToldOneBehindTheOther(t *testing.T) {
	for _, a := range append(pieces(), loose()...) {
		x := only(t, a)
		if len(x) != 1 {
			t.Fatalf("Tokens of %s: %s", short(a), told(x))
		}
		for _, b := range pieces() {
			y := only(t, b)
			tells(t, a+b, slices.Concat(x, y)...)
			tells(t, b+a, slices.Concat(y, x)...)
			tells(t, prolog+a+b+a, slices.Concat(x, y, x)...)
		}
	}
	// Texts are one text together.
	for _, a := range loose() {
		for _, b := range loose() {
			tells(t, a+b, words(only(t, a)[0].Text+only(t, b)[0].Text))
			tells(t, a+"<a/>"+b, words(only(t, a)[0].Text), empty("a"), words(only(t, b)[0].Text))
		}
	}
	// Whether ends fit is not asked here.
	tells(t, "</b><a></c>", end("b"), open("a"), end("c"))
	tells(t, strings.Repeat("<a>", 1_000), slices.Repeat([]api.Token{open("a")}, 1_000)...)
}

// all hands f every row of up to so many of the parts.
func all(parts []string, longest int, f func(string)) {
	var rows func(string, int)
	rows = func(s string, left int) {
		f(s)
		if left == 0 {
			return
		}
		for _, p := range parts {
			rows(s+p, left-1)
		}
	}
	rows("", longest)
}

func TestAllShortFiles(t *testing.T) {
	all(strings.Split("<>/ a='&;9", ""), 5, func(s string) { agrees(t, s) })
}

func TestAllShortInsidesOfAnElement(t *testing.T) {
	all([]string{" ", "b", "c", "=", "'1'", `"`, "/"}, 5, func(s string) {
		agrees(t, "<a"+s+">")
		agrees(t, "<a b='1'"+s+"/>")
		agrees(t, "</a"+s+">")
	})
}

func TestAllShortInsidesOfAnEscape(t *testing.T) {
	all([]string{"#", "x", "0", "9", "4", "a", "lt", ";"}, 5, func(s string) {
		agrees(t, "&"+s+";")
		agrees(t, "<a b='&"+s+"'>")
	})
}

func TestFilesOfAnyParts(t *testing.T) {
	r := rand.New(rand.NewSource(2))
	parts := append(append(pieces(), loose()...), "<", ">", "/", " ", "=", "'", `"`, "&", ";", "#", "x", "a", "</", "/>", "<a ", " b='1'", "&lt", "\xff", "\x01", prolog)
	for range 20_000 {
		var s string
		for range r.Intn(12) {
			s += parts[r.Intn(len(parts))]
		}
		agrees(t, s)
		if s == "" {
			continue
		}
		b := []byte(s)
		b[r.Intn(len(b))] = byte(r.Intn(256))
		agrees(t, string(b))
		b[r.Intn(len(b))] = "<>/ ='\"&;#x"[r.Intn(11)]
		agrees(t, string(b))
	}
}

func TestOnlyTheLastPieceIsWrong(t *testing.T) {
	for _, ahead := range []string{"<a>", "<a/>", "</a>", "<a b='1'>x</a>", prolog + "<a/>", strings.Repeat("<a>x</a>", 500)} {
		only(t, ahead)
		for _, bad := range []string{"<", "</", "<a", "<a b='1", "</a", "x&", "<a b='1' b='1'/>", "<!-- -->"} {
			wrong(t, ahead+bad)
		}
	}
}

func TestLongFilesThatAreWrong(t *testing.T) {
	for _, s := range []string{"<", "&", "<a", "<a ", "&#", "<a b='", "</", "<a b='1' ", "&;", "='"} {
		for _, ahead := range []string{"", "<a ", "<a b='", "x", "&"} {
			agrees(t, ahead+strings.Repeat(s, (4_096-len(ahead))/len(s)))
		}
	}
}

func TestTheSameFileIsToldAlike(t *testing.T) {
	s := prolog + strings.Join(pieces(), "x")
	first := only(t, s)
	for range 9 {
		wrong(t, "<a")
		tells(t, s, first...)
	}
}

func TestWhatIsHandedOutIsNewMemory(t *testing.T) {
	const s = "<a b='1' c='2'><a b='1' c='2'/>x<a d='3'>"
	want := []api.Token{open("a", "b", "1", "c", "2"), empty("a", "b", "1", "c", "2"), words("x"), open("a", "d", "3")}
	for i := range want {
		got := only(t, s)
		again := only(t, s)
		for j := range got[i].Attrs {
			got[i].Attrs[j] = api.Attr{Name: "z", Value: "9"}
		}
		_ = append(got[i].Attrs, api.Attr{Name: "z"}, api.Attr{Name: "z"}, api.Attr{Name: "z"})
		for j := range got {
			if j != i && !same(got[j:j+1], want[j:j+1]) {
				t.Errorf("after piece %d was written into, piece %d: %s", i, j, told(got[j:j+1]))
			}
		}
		got[i] = api.Token{}
		_ = append(got[:1], end("z"), end("z"))
		if !same(again, want) {
			t.Errorf("after an answer was written into, another one: %s", told(again))
		}
		tells(t, s, want...)
	}
}
