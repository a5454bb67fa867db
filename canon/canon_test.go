package canon_test

import (
	"fmt"
	"math/rand"
	"reflect"
	"regexp"
	"slices"
	"strconv"
	"strings"
	"testing"

	"comptoir/api"
	"comptoir/canon"
	"comptoir/text"
	"comptoir/tree"
)

const prolog = `<?xml version="1.0" encoding="UTF-8"?>`

// attrs are attributes of such names and values by turns.
func attrs(l ...string) []api.Attr {
	var out []api.Attr
	for i := 0; i < len(l); i += 2 {
		out = append(out, api.Attr{Name: l[i], Value: l[i+1]})
	}
	return out
}

// node is one, with attributes of such names and values by turns.
func node(parent int, name, s string, l ...string) api.Node {
	return api.Node{Parent: parent, Name: name, Text: s, Attrs: attrs(l...)}
}

// row is nodes, one behind the other.
func row(l ...api.Node) []api.Node {
	return l
}

// under is nodes of such parents, which are alike but for these.
func under(parents ...int) []api.Node {
	var out []api.Node
	for _, p := range parents {
		out = append(out, node(p, "a", ""))
	}
	return out
}

// deep is so many nodes, each within the other.
func deep(n int) []api.Node {
	var out []api.Node
	for i := range n {
		out = append(out, node(i-1, "a", ""))
	}
	return out
}

// with is l with x in the place of the node at n.
func with(l []api.Node, n int, x api.Node) []api.Node {
	out := slices.Clone(l)
	out[n] = x
	return out
}

// same tells whether both have the same nodes.
func same(x, y []api.Node) bool {
	return slices.EqualFunc(x, y, func(a, b api.Node) bool {
		alike := slices.Equal(a.Attrs, b.Attrs)
		a.Attrs, b.Attrs = nil, nil
		return alike && reflect.DeepEqual(a, b)
	})
}

// short names whatever it is in what a test tells.
func short(x any) string {
	s := fmt.Sprintf("%+v", x)
	if len(s) > 300 {
		s = s[:300] + ".. (" + strconv.Itoa(len(s)) + " bytes)"
	}
	return strconv.QuoteToASCII(s)
}

// writes fails unless l is Right, Write of l answers just this, and that is parsed as l, if it is not too long.
func writes(t *testing.T, l []api.Node, want string) {
	t.Helper()
	if !canon.Right(l) {
		t.Errorf("Right of %d nodes %s: false", len(l), short(l))
	}
	if got, e := canon.Write(l); got != want || e != api.OK {
		t.Errorf("Write of %d nodes %s: %s, error %d; want %s", len(l), short(l), short(got), e, short(want))
	}
	back, e := tree.Parse(want)
	switch {
	case len(want) > 4_096:
		if e != api.ErrBig {
			t.Errorf("Parse of %d bytes: error %d", len(want), e)
		}
	case !same(back, l) || e != api.OK:
		t.Errorf("%s was parsed as %s, error %d; it was written of %s", short(want), short(back), e, short(l))
	}
}

// refuses fails unless l is not Right, and Write of l answers its error alone.
func refuses(t *testing.T, l []api.Node) {
	t.Helper()
	if canon.Right(l) {
		t.Errorf("Right of %d nodes %s: true", len(l), short(l))
	}
	if got, e := canon.Write(l); got != "" || e != api.ErrTree {
		t.Errorf("Write of %d nodes %s: %s, error %d; want error %d", len(l), short(l), short(got), e, api.ErrTree)
	}
}

// What the chapter tells, asked anew at each node.

var name = regexp.MustCompile(`\A[A-Za-z_][A-Za-z0-9_.:-]*\z`)

// around is the place of a node, and those of all that it stands in, if it and all ahead of it stand where they may.
func around(l []api.Node, i int) []int {
	var out []int
	for ; i >= 0; i = l[i].Parent {
		out = append(out, i)
	}
	return out
}

// placed tells whether the node at place i stands where it may, if all ahead of it do.
func placed(l []api.Node, i int) bool {
	if i == 0 {
		return l[i].Parent == -1
	}
	return slices.Contains(around(l, i-1), l[i].Parent) && len(around(l, i)) <= 32
}

// made tells whether all that is in the node itself may be there.
func made(n api.Node) bool {
	for i, a := range n.Attrs {
		for _, b := range n.Attrs[:i] {
			if a.Name == b.Name {
				return false
			}
		}
		if !name.MatchString(a.Name) || !text.Utf8(a.Value) {
			return false
		}
	}
	return name.MatchString(n.Name) && text.Utf8(n.Text)
}

// right tells whether the chapter lets l be written.
func right(l []api.Node) bool {
	if len(l) == 0 || len(l) > 500 {
		return false
	}
	for i, n := range l {
		if !placed(l, i) || !made(n) {
			return false
		}
		if i > 0 && l[n.Parent].Text != "" {
			return false
		}
	}
	return true
}

// named is s with four signs by their names.
func named(s string) string {
	return strings.NewReplacer("&", "&amp;", "<", "&lt;", ">", "&gt;", `"`, "&quot;").Replace(s)
}

// file is what the chapter tells of l, which is right: node by node, with ends where one stands in none of the last ones.
func file(l []api.Node) string {
	var out strings.Builder
	var open []int
	for i, n := range l {
		for len(open) > 0 && open[len(open)-1] != n.Parent {
			out.WriteString("</" + l[open[len(open)-1]].Name + ">")
			open = open[:len(open)-1]
		}
		out.WriteString("<" + n.Name)
		for _, a := range n.Attrs {
			out.WriteString(" " + a.Name + `="` + named(a.Value) + `"`)
		}
		switch {
		case n.Text != "":
			out.WriteString(">" + named(n.Text) + "</" + n.Name + ">")
		case i+1 < len(l) && l[i+1].Parent == i:
			out.WriteString(">")
			open = append(open, i)
		default:
			out.WriteString("/>")
		}
	}
	for _, i := range slices.Backward(open) {
		out.WriteString("</" + l[i].Name + ">")
	}
	return out.String()
}

// agrees fails unless Right and Write of l answer what the chapter tells; it tells whether l is right.
func agrees(t *testing.T, l []api.Node) bool {
	t.Helper()
	if !right(l) {
		refuses(t, l)
		return false
	}
	writes(t, l, file(l))
	return true
}

func TestTheChaptersExample(t *testing.T) {
	writes(t, row(node(-1, "a", "")), "<a/>")
}

func TestOneNode(t *testing.T) {
	writes(t, row(node(-1, "a", "x")), "<a>x</a>")
	writes(t, row(node(-1, "Document", "1 & 2", "xmlns", "urn:x")), `<Document xmlns="urn:x">1 &amp; 2</Document>`)
	writes(t, row(node(-1, "a", "", "b", "1", "c", "2")), `<a b="1" c="2"/>`)
}

func TestNodesWithinNodes(t *testing.T) {
	writes(t, row(node(-1, "a", ""), node(0, "b", "")), "<a><b/></a>")
	writes(t, row(node(-1, "a", ""), node(0, "b", "1"), node(0, "c", ""), node(0, "b", "2")), "<a><b>1</b><c/><b>2</b></a>")
	writes(t, row(node(-1, "a", "", "d", "1"), node(0, "b", "", "d", "2"), node(1, "c", "3", "d", "4"), node(1, "c", "", "d", "5"), node(0, "e", "6")), `<a d="1"><b d="2"><c d="4">3</c><c d="5"/></b><e>6</e></a>`)
	// Back to the one that it stands in, however deep the one ahead is.
	writes(t, row(node(-1, "a", ""), node(0, "b", ""), node(1, "c", ""), node(2, "d", "1"), node(0, "e", "2"), node(0, "f", ""), node(5, "g", ""), node(5, "h", "3")), "<a><b><c><d>1</d></c></b><e>2</e><f><g/><h>3</h></f></a>")
	// In the order in which they stand, not that of their names.
	writes(t, row(node(-1, "c", ""), node(0, "b", ""), node(1, "a", "1"), node(0, "a", "2"), node(0, "b", "3")), "<c><b><a>1</a></b><a>2</a><b>3</b></c>")
}

func TestNoNode(t *testing.T) {
	refuses(t, nil)
	refuses(t, row())
	// What is behind the end of a list is not in it.
	refuses(t, row(node(-1, "a", ""))[:0])
}

// full are rows of just 500 nodes, in many shapes; the first one is still open behind them.
func full() [][]api.Node {
	wide, pairs, stairs, low := under(-1), under(-1, 0), under(-1), deep(31)
	for len(wide) < 500 {
		wide = append(wide, node(0, "a", ""))
	}
	for len(pairs) < 500 {
		pairs = append(pairs, node(0, "a", ""), node(len(pairs), "b", "x", "c", "1"))
	}
	for i := 1; len(stairs) < 500; i++ {
		// Ever anew from the first one down to as deep as may be.
		p := len(stairs) - 1
		if i%31 == 1 {
			p = 0
		}
		stairs = append(stairs, node(p, "a", ""))
	}
	for len(low) < 500 {
		low = append(low, node(30, "a", ""))
	}
	return [][]api.Node{wide, pairs, stairs, low}
}

func TestAsManyNodesAsMayBeAndOneMore(t *testing.T) {
	for i, l := range full() {
		for n := range 501 {
			if n > 490 && !agrees(t, l[:n]) {
				t.Errorf("shape %d: %d nodes are not right", i, n)
			}
		}
		refuses(t, append(slices.Clip(l), node(0, "a", "")))
		refuses(t, append(slices.Clip(l), node(0, "a", ""), node(0, "a", "")))
		refuses(t, append(slices.Clip(l), node(-1, "a", "")))
		refuses(t, slices.Concat(l, l))
	}
	writes(t, full()[0], "<a>"+strings.Repeat("<a/>", 499)+"</a>")
	refuses(t, make([]api.Node, 501))
	refuses(t, slices.Repeat(under(-1), 501))
	refuses(t, append(under(-1), slices.Repeat(under(0), 20_000)...))
}

// numbers are some that are no place of any list that is shorter than 1,000, nor the first one's Parent.
func numbers() []int {
	return []int{-2, -3, -4, -32, -500, 1_000, 1 << 31, 1<<31 - 1, 1 << 32, 1<<63 - 1, -1 << 63, -1 << 31, -1 << 32}
}

func TestTheFirstOnesParent(t *testing.T) {
	for _, l := range [][]api.Node{under(-1), under(-1, 0), under(-1, 0, 1, 0), deep(32), full()[0]} {
		if !agrees(t, l) {
			t.Fatalf("%s is not right", short(l))
		}
		for _, p := range append(numbers(), 0, 1, 2, 3, 4, 31, 32, 499, 500) {
			refuses(t, with(l, 0, node(p, "a", "")))
		}
	}
}

func TestNoOtherStandsInNone(t *testing.T) {
	refuses(t, under(-1, -1))
	refuses(t, under(-1, 0, -1))
	refuses(t, under(-1, -1, 0))
	refuses(t, under(-1, -1, 1))
	for _, l := range append(full(), under(-1, 0), under(-1, 0, 1, 0, 3, 3), deep(32)) {
		for i := 1; i < len(l); i++ {
			refuses(t, with(l, i, node(-1, "a", "")))
		}
	}
}

func TestParentsThatAreNoPlace(t *testing.T) {
	for _, l := range [][]api.Node{under(-1, 0), under(-1, 0, 1, 0, 3, 3), deep(32), full()[1][:99]} {
		for i := 1; i < len(l); i++ {
			for _, p := range append(numbers(), len(l), len(l)+1) {
				refuses(t, with(l, i, node(p, "a", "")))
			}
		}
	}
}

func TestParentsThatAreTheNodeItselfOrLaterOnes(t *testing.T) {
	for _, l := range [][]api.Node{under(-1), under(-1, 0), under(-1, 0, 0), under(-1, 0, 1, 0, 3, 3), deep(32), full()[0][:99]} {
		for i := range l {
			for p := i; p < len(l); p++ {
				refuses(t, with(l, i, node(p, "a", "")))
			}
		}
	}
	// In a ring of any length.
	for n := 1; n < 9; n++ {
		l := under(-1)
		for i := range n {
			l = append(l, node(1+(i+1)%n, "a", ""))
		}
		refuses(t, l)
		refuses(t, append(l, node(0, "a", "")))
		refuses(t, l[1:])
	}
}

func TestParentsThatAreOpenAndThatAreNotAnyMore(t *testing.T) {
	// Of each place: those of the nodes ahead that are open there.
	l := under(-1, 0, 1, 2, 1, 0, 5, 5, 7, 0)
	open := [][]int{nil, {0}, {0, 1}, {0, 1, 2}, {0, 1, 2, 3}, {0, 1, 4}, {0, 5}, {0, 5, 6}, {0, 5, 7}, {0, 5, 7, 8}, {0, 9}}
	for n := 1; n <= len(l); n++ {
		for p := range n {
			one := append(slices.Clip(l[:n]), node(p, "b", ""))
			if slices.Contains(open[n], p) != agrees(t, one) {
				t.Errorf("of parent %d behind %d nodes: right is %v", p, n, right(one))
			}
			if n < len(l) {
				agrees(t, with(l, n, node(p, "b", "")))
			}
		}
	}
	refuses(t, under(-1, 0, 0, 1))
	refuses(t, under(-1, 0, 1, 0, 1))
	refuses(t, under(-1, 0, 1, 0, 2))
	refuses(t, under(-1, 0, 1, 1, 2))
	writes(t, under(-1, 0, 1, 1, 3), "<a><a><a/><a><a/></a></a></a>")
}

func TestBackToEachDepth(t *testing.T) {
	for n := 2; n <= 32; n++ {
		for p := range n {
			l := append(deep(n), node(p, "b", "x"))
			if agrees(t, l) != (p < 31) {
				t.Errorf("behind %d nodes, in the one at place %d: right is %v", n, p, right(l))
			}
			if p == 31 {
				continue
			}
			// Those that are behind it there were closed by it.
			for q := range n {
				again := append(slices.Clip(l), node(q, "c", ""))
				again[n].Text = ""
				if agrees(t, again) != (q <= p) {
					t.Errorf("behind %d nodes, and one in %d, one in %d: right is %v", n, p, q, right(again))
				}
			}
		}
	}
}

func TestAsManyWithinEachOtherAsMayBeAndOneMore(t *testing.T) {
	for _, n := range []int{1, 2, 3, 31, 32} {
		writes(t, deep(n), strings.Repeat("<a>", n-1)+"<a/>"+strings.Repeat("</a>", n-1))
		writes(t, with(deep(n), n-1, node(n-2, "a", "x")), strings.Repeat("<a>", n)+"x"+strings.Repeat("</a>", n))
	}
	for _, n := range []int{33, 34, 64, 65, 100, 499, 500, 501} {
		refuses(t, deep(n))
	}
	lowest := slices.Concat(deep(32), slices.Repeat(under(30), 300))
	if !agrees(t, lowest) {
		t.Errorf("many of depth 32 are not right")
	}
	for n := 32; n < len(lowest); n++ {
		refuses(t, append(slices.Clip(lowest[:n]), node(n-1, "a", "")))
	}
	refuses(t, append(deep(32), node(31, "a", "x")))
	// Too deep at first, and not in the end.
	refuses(t, append(deep(33), node(0, "a", "")))
	// As deep as may be, again and again.
	if l := full()[2]; !agrees(t, l) || !agrees(t, l[:31*9+1]) {
		t.Errorf("as deep as may be, again and again: not right")
	}
}

// parts are all places of a name: of a node, of the first one, of a later one, and of attributes.
func parts(s string) [][]api.Node {
	return [][]api.Node{
		row(node(-1, s, "")),
		row(node(-1, s, "x", "b", "1")),
		row(node(-1, s, ""), node(0, "b", "")),
		row(node(-1, "a", ""), node(0, s, "")),
		row(node(-1, "a", ""), node(0, "b", "x"), node(0, s, "x"), node(0, "b", "")),
		row(node(-1, "a", "", s, "1")),
		row(node(-1, "a", "x", "x1", "1", s, "2", "x2", "3")),
		row(node(-1, "a", "", "x1", "1", "x2", "2", s, "3")),
		row(node(-1, "a", ""), node(0, "b", "", s, "")),
		row(node(-1, "a", ""), node(0, "b", "x", s, "1"), node(0, "b", "", "x1", "1", s, "1")),
	}
}

// asName fails unless s is taken as a name, or as none, wherever it stands as one.
func asName(t *testing.T, s string, want bool) {
	t.Helper()
	for i, l := range parts(s) {
		if agrees(t, l) != want {
			t.Errorf("%s as a name, at place %d: right is %v", short(s), i, !want)
		}
	}
}

func TestNames(t *testing.T) {
	for _, s := range []string{"a", "Z", "_", "__", "a1", "A_", "a.b", "a-b", "a:b", "a:", "_.-:9", "xml", "Document", "TtlAmt", "a..", "b--", "abcdefghijklmnopqrstuvwxyzABCDEFGHIJKLMNOPQRSTUVWXYZ_0123456789-.:", strings.Repeat("n", 9_000), strings.Repeat("_.-:9", 1_000)} {
		asName(t, s, true)
	}
	for _, s := range []string{"", " ", "a b", " a", "a ", "a\n", "\na", "a\x00", "\x00", "1", "1a", "-a", ".a", ":a", ":", "a/", "/a", "a>", "<a", "a<", "a=", `a"`, "a'", "a&", "&amp;", "a;b", "!a", "?a", "a?", "a!", "a[0]", "a@b", "a~", "a+b", "a,b", "é", "aé", "éa", "ａ", "а", "ß", "a\u0301", "a·", "٣", "a٣", "\u212a", "a\u212a", "\xff", "a\xff", "\xffa", "a\xffb", "a\xe1", "\ufeffa", "a\u00a0", "a\U00010000b", strings.Repeat("n", 9_000) + "é", "/" + strings.Repeat("n", 9_000), strings.Repeat("n", 4_000) + " " + strings.Repeat("n", 4_000)} {
		asName(t, s, false)
	}
}

func TestEachByteInNames(t *testing.T) {
	for i := range 256 {
		c := byte(i)
		letter := 'a' <= c && c <= 'z' || 'A' <= c && c <= 'Z' || c == '_'
		behind := letter || '0' <= c && c <= '9' || c == '-' || c == '.' || c == ':'
		s := string([]byte{c})
		asName(t, s, letter)
		asName(t, s+"a", letter)
		asName(t, s+s, letter)
		asName(t, "a"+s, behind)
		asName(t, "_"+s+"a", behind)
		asName(t, "a9"+s+"9a", behind)
		asName(t, "Z"+s+s+s, behind)
	}
}

func TestEachCharacterInNames(t *testing.T) {
	for c := rune(128); c < 0x3000; c++ {
		if l := row(node(-1, string(c), "")); canon.Right(l) {
			t.Errorf("character %d alone is a name", c)
		}
		if l := row(node(-1, "a"+string(c)+"a", "")); canon.Right(l) {
			t.Errorf("a name may have character %d", c)
		}
	}
}

func TestAttributes(t *testing.T) {
	writes(t, row(node(-1, "a", "")), "<a/>")
	writes(t, row(api.Node{Parent: -1, Name: "a", Attrs: []api.Attr{}}), "<a/>")
	writes(t, row(node(-1, "a", "", "b", "1")), `<a b="1"/>`)
	writes(t, row(node(-1, "a", "x", "b", "")), `<a b="">x</a>`)
	writes(t, row(node(-1, "a", "", "b", " "), node(0, "c", "")), `<a b=" "><c/></a>`)
	// In the order in which they stand, with values that may be alike.
	writes(t, row(node(-1, "a", "", "d", "1", "b", "1", "c", "1")), `<a d="1" b="1" c="1"/>`)
	// Of the name of their own node, or of another one.
	writes(t, row(node(-1, "a", "", "a", "a", "b", "a"), node(0, "b", "", "a", "b", "b", "b")), `<a a="a" b="a"><b a="b" b="b"/></a>`)
	for _, n := range []int{2, 9, 100, 300, 3_000} {
		var l []string
		want := ""
		for i := range n {
			l = append(l, "n"+strconv.Itoa(i), strconv.Itoa(i))
			want += fmt.Sprintf(` n%d="%d"`, i, i)
		}
		writes(t, row(node(-1, "a", "x", l...)), "<a"+want+">x</a>")
		writes(t, row(node(-1, "a", ""), node(0, "b", "", l...), node(0, "b", "", l...)), "<a><b"+want+"/><b"+want+"/></a>")
	}
}

func TestAttributesThatAreAlike(t *testing.T) {
	// In one node, wherever it stands, beside whatever.
	for _, l := range [][]string{{"b", "1", "b", "1"}, {"b", "1", "b", "2"}, {"b", "", "b", ""}, {"b", "1", "c", "2", "b", "3"}, {"c", "1", "b", "2", "b", "3"}, {"b", "1", "b", "2", "c", "3"}, {"b", "1", "b", "2", "b", "3"}, {"b", "1", "c", "2", "c", "3", "b", "4"}} {
		refuses(t, row(node(-1, "a", "", l...)))
		refuses(t, row(node(-1, "a", "x", l...)))
		refuses(t, row(node(-1, "a", "", l...), node(0, "a", "")))
		refuses(t, row(node(-1, "a", ""), node(0, "a", "", l...)))
		refuses(t, row(node(-1, "a", ""), node(0, "a", "x"), node(0, "a", "x", l...)))
	}
	// In two nodes, beside each other, or one within the other.
	writes(t, row(node(-1, "a", "", "b", "1"), node(0, "a", "", "b", "1"), node(0, "a", "", "b", "1"), node(2, "a", "", "b", "1")), `<a b="1"><a b="1"/><a b="1"><a b="1"/></a></a>`)
	// Those that are nearly alike are not.
	writes(t, row(node(-1, "a", "", "b", "1", "B", "2", "bb", "3", "b_", "4", "_b", "5", "b:b", "6")), `<a b="1" B="2" bb="3" b_="4" _b="5" b:b="6"/>`)
	var many []string
	for i := range 3_000 {
		many = append(many, "n"+strconv.Itoa(i), "1")
	}
	for _, i := range []int{0, 1, 1_500, 2_998, 2_999} {
		refuses(t, row(node(-1, "a", "", append(slices.Clip(many), "n"+strconv.Itoa(i), "2")...)))
		refuses(t, row(node(-1, "a", "", append([]string{"n" + strconv.Itoa(i), "2"}, many...)...)))
	}
}

// texts are some, none of which is "".
func texts() []string {
	return []string{"x", " ", "\t", "\n", "\r", "\r\n", "  x  ", "\n\tx\r\n", "0", "comptoir", "é€😀", "\x7f", "\u0080", "\u0085", "\u00a0", "\u2028", "\ud7ff", "\ue000", "\ufeff", "\ufdd0", "\ufffd", "\U00010000", "\U0001fffe", "\U0010ffff", "a\u0301", "<a>", "</a>", "<!-- -->", "<![CDATA[x]]>", "]]>", prolog, "&amp;", "&", "&&", "&#32;", "&lt", `"`, "'", `'"'`, "a=b", strings.Repeat("é", 2_000), strings.Repeat("x", 5_000)}
}

// noTexts are some that are none.
func noTexts() []string {
	return []string{"\x00", "\x01", "\x08", "\x0b", "\x0c", "\x0e", "\x1f", "\x80", "\xbf", "\xc3", "\xff", "\xfe\xff", "\xc0\x80", "\xc1\xbf", "\xe0\x80\xaf", "\xed\xa0\x80", "\xed\xbf\xbf", "\xf0\x80\x80\x80", "\xf4\x90\x80\x80", "\xf8\x88\x80\x80\x80", "\ufffe", "\uffff", "x\x00", "\x00x", "x\xff", "\xffx", "é\xc3", "\xa9é", " \x00 ", "x\ufffex", strings.Repeat("x", 5_000) + "\x00", "\xff" + strings.Repeat("x", 5_000)}
}

// places are rows with s as a Text, or as a Value, in each place that it may have.
func places(s string) [][]api.Node {
	return [][]api.Node{
		row(node(-1, "a", s)),
		row(node(-1, "a", s, "b", "1")),
		row(node(-1, "a", ""), node(0, "b", s)),
		row(node(-1, "a", ""), node(0, "b", s), node(0, "c", "x")),
		row(node(-1, "a", ""), node(0, "b", "x"), node(0, "c", s, "d", "1")),
		row(node(-1, "a", "", "b", s)),
		row(node(-1, "a", "x", "b", s)),
		row(node(-1, "a", "", "b", s), node(0, "c", "")),
		row(node(-1, "a", "x", "b", s, "c", "1")),
		row(node(-1, "a", "x", "b", "1", "c", s)),
		row(node(-1, "a", "x", "b", s, "c", s)),
		row(node(-1, "a", s, "b", s)),
		row(node(-1, "a", ""), node(0, "b", "", "c", "1"), node(0, "b", "", "c", s)),
	}
}

// asText fails unless s is taken as a text, or as none, wherever it stands as one.
func asText(t *testing.T, s string, want bool) {
	t.Helper()
	for i, l := range places(s) {
		if agrees(t, l) != want {
			t.Errorf("%s as a text, at place %d: right is %v", short(s), i, !want)
		}
	}
}

func TestTextsAndValues(t *testing.T) {
	asText(t, "", true)
	for _, s := range texts() {
		asText(t, s, true)
	}
	for _, s := range noTexts() {
		asText(t, s, false)
	}
	for i := range 256 {
		may := i == 9 || i == 10 || i == 13 || i >= 32 && i < 128
		asText(t, string([]byte{byte(i)}), may)
		asText(t, "x"+string([]byte{byte(i)})+"y", may)
	}
	// Parts of a character are no text, though they are one behind the other.
	refuses(t, row(node(-1, "a", "\xa9", "b", "\xc3")))
	refuses(t, row(node(-1, "a", ""), node(0, "b", "\xc3"), node(0, "b", "\xa9")))
}

func TestTextsAndKids(t *testing.T) {
	for _, l := range [][]string{nil, {"d", "1"}, {"d", "", "e", "2"}} {
		attrs := ""
		for i := 0; i < len(l); i += 2 {
			attrs += " " + l[i] + `="` + l[i+1] + `"`
		}
		kid := node(0, "b", "y", "f", "3")
		none := node(-1, "a", "", l...)
		writes(t, row(none), "<a"+attrs+"/>")
		writes(t, row(none, kid), "<a"+attrs+`><b f="3">y</b></a>`)
		writes(t, row(none, kid, node(0, "c", ""), kid), "<a"+attrs+`><b f="3">y</b><c/><b f="3">y</b></a>`)
		for _, s := range texts() {
			one := node(-1, "a", s, l...)
			writes(t, row(one), "<a"+attrs+">"+named(s)+"</a>")
			refuses(t, row(one, kid))
			refuses(t, row(one, node(0, "b", "")))
			refuses(t, row(one, node(0, "b", ""), node(1, "c", "")))
			// The same of one that stands in another.
			one.Parent = 0
			writes(t, row(node(-1, "c", ""), one), "<c><a"+attrs+">"+named(s)+"</a></c>")
			writes(t, row(node(-1, "c", ""), one, kid), "<c><a"+attrs+">"+named(s)+`</a><b f="3">y</b></c>`)
			refuses(t, row(node(-1, "c", ""), one, node(1, "b", "")))
			refuses(t, row(node(-1, "c", s), one))
			refuses(t, row(node(-1, "c", ""), kid, one, node(2, "b", "")))
		}
	}
	// Wherever in a row it stands, and wherever its kid does.
	l := under(-1, 0, 1, 1, 0, 4, 5, 4, 0)
	for i := range l {
		got := with(l, i, node(l[i].Parent, "a", "x"))
		if agrees(t, got) != (len(tree.Kids(l, i)) == 0) {
			t.Errorf("with a text at place %d: right is %v", i, right(got))
		}
	}
	for i := range 31 {
		refuses(t, with(deep(32), i, node(i-1, "a", "x")))
	}
}

func TestSignsThatAreWrittenByTheirNames(t *testing.T) {
	for s, want := range map[string]string{
		"&": "&amp;", "<": "&lt;", ">": "&gt;", `"`: "&quot;",
		"'": "'", ";": ";", "#": "#", "/": "/", "=": "=", "!": "!", "?": "?", "-": "-", "[": "[", "]": "]", "%": "%", "\\": "\\", "`": "`", "\n": "\n", "\t": "\t", "\r": "\r", " ": " ", "\x7f": "\x7f", "\u00a0": "\u00a0", "é": "é", "€": "€", "😀": "😀", "“": "“", "＜": "＜", "\ufffd": "\ufffd",
		"&&": "&amp;&amp;", "&<>\"": "&amp;&lt;&gt;&quot;", "><": "&gt;&lt;", `""`: "&quot;&quot;", "<&>\"'\n": "&lt;&amp;&gt;&quot;'\n",
		"a&b": "a&amp;b", "&b": "&amp;b", "a&": "a&amp;", "é<é": "é&lt;é", "<b>x</b>": "&lt;b&gt;x&lt;/b&gt;", "]]>": "]]&gt;",
		"&amp;": "&amp;amp;", "&lt;": "&amp;lt;", "&gt;": "&amp;gt;", "&quot;": "&amp;quot;", "&apos;": "&amp;apos;", "&#38;": "&amp;#38;", "&amp;lt;": "&amp;amp;lt;", "amp;": "amp;",
	} {
		writes(t, row(node(-1, "a", s)), "<a>"+want+"</a>")
		writes(t, row(node(-1, "a", "", "b", s)), `<a b="`+want+`"/>`)
		writes(t, row(node(-1, "a", s, "b", s, "c", "x"+s)), `<a b="`+want+`" c="x`+want+`">`+want+"</a>")
		writes(t, row(node(-1, "a", "", "b", s+"x"), node(0, "c", s+"y"+s, "d", s+s)), `<a b="`+want+`x"><c d="`+want+want+`">`+want+"y"+want+"</c></a>")
	}
	for c := rune(0); c <= 0x10ffff; c++ {
		s := string(c)
		if s == "&" || s == "<" || s == ">" || s == `"` || !text.Utf8(s) || c >= 0xd800 && c < 0xe000 {
			continue
		}
		if got, e := canon.Write(row(node(-1, "a", s, "b", s))); got != `<a b="`+s+`">`+s+"</a>" || e != api.OK {
			t.Fatalf("of character %d: %s, error %d", c, short(got), e)
		}
	}
}

func TestFilesAsLongAsMayBeParsedAndLonger(t *testing.T) {
	for n := 4_080; n < 4_110; n++ {
		x := strings.Repeat("x", n-7)
		writes(t, row(node(-1, "a", x)), "<a>"+x+"</a>")
		writes(t, row(node(-1, "a", "", "b", x[2:])), `<a b="`+x[2:]+`"/>`)
		// What is written by a name counts as that.
		writes(t, row(node(-1, "a", x[6:]+`"`)), "<a>"+x[6:]+"&quot;</a>")
	}
	big := strings.Repeat("&", 300_000)
	writes(t, row(node(-1, "a", big, "b", big)), `<a b="`+strings.Repeat("&amp;", 300_000)+`">`+strings.Repeat("&amp;", 300_000)+"</a>")
	long := strings.Repeat("n", 100_000)
	writes(t, row(node(-1, long, ""), node(0, long, "")), "<"+long+"><"+long+"/></"+long+">")
}

func TestWhatIsParsedMayBeWritten(t *testing.T) {
	for s, want := range map[string]string{
		"<a/>":                                  "<a/>",
		"<a></a>":                               "<a/>",
		"<a> </a>":                              "<a> </a>",
		"<a  ></a >":                            "<a/>",
		prolog + "\n<a>x</a>\n":                 "<a>x</a>",
		"<a b='1'/>":                            `<a b="1"/>`,
		"<a\n\tc = '2'  b='1' />":               `<a c="2" b="1"/>`,
		"<a b='\"'>'\"&apos;</a>":               `<a b="&quot;">'&quot;'</a>`,
		"<a> <b/> \n<c> x </c>\t</a>":           "<a><b/><c> x </c></a>",
		"<a>&#60;&#x26;&#x1F600;&#10;></a>":     "<a>&lt;&amp;😀\n&gt;</a>",
		"<a>&#32;<b>1</b>&#9;</a>":              "<a><b>1</b></a>",
		"<a b='>&lt;\n'><_.-:9>]]></_.-:9></a>": "<a b=\"&gt;&lt;\n\"><_.-:9>]]&gt;</_.-:9></a>",
		strings.Repeat("<a>", 32) + strings.Repeat("</a>", 32): strings.Repeat("<a>", 31) + "<a/>" + strings.Repeat("</a>", 31),
		"<a>" + strings.Repeat("<b/>", 499) + "</a>":           "<a>" + strings.Repeat("<b/>", 499) + "</a>",
	} {
		l, e := tree.Parse(s)
		if e != api.OK {
			t.Fatalf("Parse of %s: error %d", short(s), e)
		}
		writes(t, l, want)
	}
	r := rand.New(rand.NewSource(1))
	parts := []string{"<a>", "<a>", "<b c='1'>", `<b c="&lt;" d='"'>`, "</a>", "</a>", "</b>", "<a/>", "<b/>", " ", "x", "&lt;", "&#32;", "\n", "]]>"}
	right := 0
	for range 100_000 {
		s := ""
		for range r.Intn(9) {
			s += parts[r.Intn(len(parts))]
		}
		l, e := tree.Parse(s)
		if e != api.OK {
			continue
		}
		right++
		if !agrees(t, l) {
			t.Fatalf("%s was parsed, and may not be written", short(s))
		}
	}
	if right < 1_000 {
		t.Errorf("of 100000 chance files %d were parsed", right)
	}
}

// all hands f every row of up to so many of the nodes.
func all(parts []api.Node, longest int, f func([]api.Node)) {
	var rows func([]api.Node, int)
	rows = func(l []api.Node, left int) {
		f(l)
		if left == 0 {
			return
		}
		for _, p := range parts {
			rows(append(slices.Clip(l), p), left-1)
		}
	}
	rows(nil, longest)
}

func TestAllShortRows(t *testing.T) {
	all(under(-2, -1, 0, 1, 2, 3, 4), 5, func(l []api.Node) { agrees(t, l) })
	var parts []api.Node
	for p := -1; p < 3; p++ {
		parts = append(parts, node(p, "a", ""), node(p, "b", "x"), node(p, "b", "", "c", "<"), node(p, "", ""), node(p, "a", "\xff"), node(p, "a", "", "c", "1", "c", "2"))
	}
	all(parts, 3, func(l []api.Node) { agrees(t, l) })
}

// chance is nodes that are right, at most so many.
func chance(r *rand.Rand, most int) []api.Node {
	l := under(-1)
	for range r.Intn(most) {
		// In the last one, or in one that it stands in.
		p := len(l) - 1
		for len(around(l, p)) == 32 || p > 0 && r.Intn(3) == 0 {
			p = l[p].Parent
		}
		l[p].Text = ""
		n := node(p, string("abc"[r.Intn(3)]), "")
		if r.Intn(2) == 0 {
			n.Text = texts()[r.Intn(39)]
		}
		for range r.Intn(3) {
			n.Attrs = append(n.Attrs, api.Attr{Name: "n" + strconv.Itoa(len(n.Attrs)), Value: texts()[r.Intn(39)]})
		}
		l = append(l, n)
	}
	return l
}

func TestChanceTrees(t *testing.T) {
	r := rand.New(rand.NewSource(2))
	for _, most := range []int{3, 9, 60, 500} {
		for range 300 {
			if l := chance(r, most); !agrees(t, l) {
				t.Fatalf("%s is not right", short(l))
			}
		}
	}
}

// turned is n with one thing of it turned.
func turned(r *rand.Rand, n api.Node) api.Node {
	n.Attrs = slices.Clone(n.Attrs)
	names, values := []string{"", "a", "b:", ":b", "9", "é", "a "}, append(noTexts(), "", "x", "<")
	switch r.Intn(6) {
	case 0, 1:
		n.Parent += r.Intn(9) - 4
	case 2:
		n.Name = names[r.Intn(len(names))]
	case 3:
		n.Text = values[r.Intn(len(values))]
	case 4:
		n.Attrs = append(n.Attrs, api.Attr{Name: names[r.Intn(len(names))], Value: values[r.Intn(len(values))]})
	case 5:
		n.Attrs = append(n.Attrs, n.Attrs...)
	}
	return n
}

func TestChanceTreesWithANodeTurned(t *testing.T) {
	r := rand.New(rand.NewSource(3))
	count := map[bool]int{}
	for _, most := range []int{3, 9, 40} {
		for range 5_000 {
			l := chance(r, most)
			n := r.Intn(len(l))
			count[agrees(t, with(l, n, turned(r, l[n])))]++
			count[agrees(t, slices.Delete(slices.Clone(l), n, n+1))]++
			count[agrees(t, slices.Insert(slices.Clone(l), n, turned(r, l[n])))]++
			count[agrees(t, l[:n])]++
			k := r.Intn(len(l))
			l[n], l[k] = l[k], l[n]
			count[agrees(t, l)]++
		}
	}
	if count[true] < 5_000 || count[false] < 5_000 {
		t.Errorf("right %d times, and not so %d times", count[true], count[false])
	}
}

func TestTheSameIsToldAlike(t *testing.T) {
	l := row(node(-1, "a", "", "c", "1", "b", "2"), node(0, "b", "<"), node(0, "c", ""))
	for range 9 {
		refuses(t, nil)
		refuses(t, deep(33))
		refuses(t, append(slices.Clip(l), node(1, "d", "")))
		writes(t, l, `<a c="1" b="2"><b>&lt;</b><c/></a>`)
	}
}

func TestWhatIsHandedInStays(t *testing.T) {
	list := attrs("b", "&", "c", "2", "d", "3")
	made := func() []api.Node {
		x := api.Node{Parent: -1, Name: "a", Attrs: slices.Clone(list)[:2]}
		return append(row(x, node(0, "b", "<", "e", ">"), node(0, "c", ""), node(2, "d", "\"")), node(1, "room", ""), node(-1, "room", "x"))
	}
	// What is behind the ends of the lists plays no part.
	wants := []string{"", `<a b="&amp;" c="2"/>`, `<a b="&amp;" c="2"><b e="&gt;">&lt;</b></a>`, `<a b="&amp;" c="2"><b e="&gt;">&lt;</b><c/></a>`, `<a b="&amp;" c="2"><b e="&gt;">&lt;</b><c><d>&quot;</d></c></a>`, "", ""}
	for n, want := range wants {
		l := made()
		if want == "" {
			refuses(t, l[:n])
		} else {
			writes(t, l[:n], want)
		}
		if !same(l, made()) || !slices.Equal(l[0].Attrs[:3], list) {
			t.Errorf("after Write of the first %d: %s", n, short(l))
		}
	}
	// An attribute behind the end that is like one of the list's.
	room := attrs("b", "1", "b", "2")
	writes(t, row(api.Node{Parent: -1, Name: "a", Attrs: room[:1]}), `<a b="1"/>`)
	// What is handed in may be written into afterwards.
	l := made()
	got, _ := canon.Write(l[:4])
	l[0], l[1].Attrs[0] = api.Node{}, api.Attr{}
	if got != wants[4] {
		t.Errorf("after what was handed in was written into, the answer: %s", short(got))
	}
}
