package tree_test

import (
	"fmt"
	"math/rand"
	"reflect"
	"slices"
	"strconv"
	"strings"
	"testing"

	"comptoir/api"
	"comptoir/token"
	"comptoir/tree"
)

const prolog = `<?xml version="1.0" encoding="UTF-8"?>`

// attrs are attributes of such names and values by turns.
func attrs(l ...string) []api.Attr {
	var out []api.Attr
	for i := 0; i < len(l); i += 2 {
		out = append(out, api.Attr{Name: l[i], Value: l[i+1]})
	}
	return out
}

// open is an Open that is not Empty.
func open(name string, l ...string) api.Token {
	return api.Token{Kind: api.Open, Name: name, Attrs: attrs(l...)}
}

// empty is an Open that is Empty.
func empty(name string, l ...string) api.Token {
	return api.Token{Kind: api.Open, Name: name, Attrs: attrs(l...), Empty: true}
}

// end is a Close.
func end(name string) api.Token {
	return api.Token{Kind: api.Close, Name: name}
}

// words is a Text.
func words(s string) api.Token {
	return api.Token{Kind: api.Text, Text: s}
}

// node is a node without attributes.
func node(parent int, name, s string) api.Node {
	return api.Node{Parent: parent, Name: name, Text: s}
}

// row is tokens, one behind the other.
func row(l ...api.Token) []api.Token {
	return l
}

// times is l, so many times.
func times(n int, l ...api.Token) []api.Token {
	return slices.Repeat(l, n)
}

// within is l with so many elements around it, each within the other.
func within(n int, l ...api.Token) []api.Token {
	return slices.Concat(times(n, open("a")), l, times(n, end("a")))
}

// same tells whether both have the same nodes.
func same(x, y []api.Node) bool {
	return slices.EqualFunc(x, y, func(a, b api.Node) bool {
		alike := slices.Equal(a.Attrs, b.Attrs)
		a.Attrs, b.Attrs = nil, nil
		return alike && reflect.DeepEqual(a, b)
	})
}

// short names whatever it is in what a test tells.
func short(x any) string {
	s := fmt.Sprintf("%+v", x)
	if len(s) > 300 {
		s = s[:300] + ".. (" + strconv.Itoa(len(s)) + " bytes)"
	}
	return strconv.QuoteToASCII(s)
}

// tells fails unless Build of l answers just these.
func tells(t *testing.T, l []api.Token, want ...api.Node) {
	t.Helper()
	if got, e := tree.Build(l); !same(got, want) || e != api.OK {
		t.Errorf("Build of %d tokens %s: %d nodes %s, error %d; want %d nodes %s", len(l), short(l), len(got), short(got), e, len(want), short(want))
	}
}

// refuses fails unless Build of l answers that error alone.
func refuses(t *testing.T, l []api.Token, want api.Errno) {
	t.Helper()
	if got, e := tree.Build(l); len(got) > 0 || e != want {
		t.Errorf("Build of %d tokens %s: %d nodes %s, error %d; want error %d", len(l), short(l), len(got), short(got), e, want)
	}
}

// parsed fails unless Parse of s answers just these.
func parsed(t *testing.T, s string, want ...api.Node) {
	t.Helper()
	if got, e := tree.Parse(s); !same(got, want) || e != api.OK {
		t.Errorf("Parse of %s: %s, error %d; want %s", short(s), short(got), e, short(want))
	}
}

// unparsed fails unless Parse of s answers that error alone.
func unparsed(t *testing.T, s string, want api.Errno) {
	t.Helper()
	if got, e := tree.Parse(s); len(got) > 0 || e != want {
		t.Errorf("Parse of %s: %s, error %d; want error %d", short(s), short(got), e, want)
	}
}

// only is what Build answers of what is right.
func only(t *testing.T, l []api.Token) []api.Node {
	t.Helper()
	out, e := tree.Build(l)
	if e != api.OK {
		t.Fatalf("Build of %d tokens %s: error %d", len(l), short(l), e)
	}
	return out
}

// blank are texts of blanks.
func blank() []string {
	return []string{"", " ", "\t", "\n", "\r", "  ", "\r\n", " \t\n\r \t\n\r ", strings.Repeat(" ", 300)}
}

// signs are texts that are not of blanks.
func signs() []string {
	return []string{"x", " x", "x ", " x ", "\n\tx\r\n", "comptoir", ".", "0", "<", ">", "&", "]]>", "\x00", "\x01", "\x0b", "\x0c", "\x1f", "\x7f", "\u0085", "\u00a0", "\u2003", "\u2028", "\u3000", "\ufeff", "\u200b", "é€😀", "\xff", "\xa0", " \x80 ", "&#32;", strings.Repeat(" ", 300) + "x" + strings.Repeat("\n", 300)}
}

// What the chapter tells, asked anew at each token of all that is ahead of it.

// around are the places of the tokens of which the elements are still open ahead of place n, the innermost last.
func around(l []api.Token, n int) []int {
	var out []int
	for i, t := range l[:n] {
		if t.Kind == api.Open && !t.Empty {
			out = append(out, i)
		}
		if t.Kind == api.Close {
			out = out[:len(out)-1]
		}
	}
	return out
}

// elements is how many Opens there are ahead of place n.
func elements(l []api.Token, n int) int {
	out := 0
	for _, t := range l[:n] {
		if t.Kind == api.Open {
			out++
		}
	}
	return out
}

// spaced tells whether s is of blanks.
func spaced(s string) bool {
	for i := range len(s) {
		if s[i] != 9 && s[i] != 10 && s[i] != 13 && s[i] != 32 {
			return false
		}
	}
	return true
}

// fault is what is wrong with the token at place n, if all ahead of it are right.
func fault(l []api.Token, n int) api.Errno {
	t, o := l[n], around(l, n)
	switch t.Kind {
	case api.Open:
		switch many := elements(l, n); {
		case t.Name == "":
			return api.ErrToken
		case many > 0 && len(o) == 0:
			return api.ErrTree
		case len(o) >= 32:
			return api.ErrDeep
		case many >= 500:
			return api.ErrBig
		}
	case api.Close:
		if len(o) == 0 || l[o[len(o)-1]].Name != t.Name {
			return api.ErrTree
		}
	case api.Text:
		if len(o) == 0 && !spaced(t.Text) {
			return api.ErrTree
		}
	default:
		return api.ErrToken
	}
	return api.OK
}

// grown is the node of the Open at place n, and whether it has text beside elements, if all tokens are right.
func grown(l []api.Token, n int) (api.Node, bool) {
	out := api.Node{Parent: -1, Name: l[n].Name, Attrs: l[n].Attrs}
	if o := around(l, n); len(o) > 0 {
		out.Parent = elements(l, o[len(o)-1])
	}
	kids, texts := 0, ""
	for i, t := range l {
		if o := around(l, i); len(o) == 0 || o[len(o)-1] != n {
			continue
		}
		if t.Kind == api.Open {
			kids++
		}
		if t.Kind == api.Text {
			texts += t.Text
		}
	}
	if kids == 0 {
		out.Text = texts
	}
	return out, kids > 0 && !spaced(texts)
}

// expected is what the chapter tells of l.
func expected(l []api.Token) ([]api.Node, api.Errno) {
	for n := range l {
		if e := fault(l, n); e != api.OK {
			return nil, e
		}
	}
	if elements(l, len(l)) == 0 || len(around(l, len(l))) > 0 {
		return nil, api.ErrTree
	}
	var out []api.Node
	for n, t := range l {
		if t.Kind != api.Open {
			continue
		}
		x, mixed := grown(l, n)
		if mixed {
			return nil, api.ErrMixed
		}
		out = append(out, x)
	}
	return out, api.OK
}

// agrees fails unless Build of l answers what the chapter tells, and what follows of it holds.
func agrees(t *testing.T, l []api.Token) {
	t.Helper()
	want, e := expected(l)
	got, f := tree.Build(l)
	if !same(got, want) || f != e {
		t.Fatalf("Build of %d tokens %s: %s, error %d; want %s, error %d", len(l), short(l), short(got), f, short(want), e)
	}
	follows(t, got)
}

// follows fails unless each node stands behind its parent, the first one alone has none, and what has kids has no text.
func follows(t *testing.T, l []api.Node) {
	t.Helper()
	for i, n := range l {
		if n.Parent >= i || n.Parent < -1 || (n.Parent == -1) != (i == 0) {
			t.Fatalf("node %d of %s has parent %d", i, short(l), n.Parent)
		}
		if n.Text != "" && len(tree.Kids(l, i)) > 0 {
			t.Fatalf("node %d of %s has kids, and text", i, short(l))
		}
	}
}

func TestTheChaptersExample(t *testing.T) {
	parsed(t, "<a>x</a>", node(-1, "a", "x"))
}

func TestOneElement(t *testing.T) {
	tells(t, row(empty("a")), node(-1, "a", ""))
	tells(t, row(open("a"), end("a")), node(-1, "a", ""))
	tells(t, row(open("a"), words("x"), end("a")), node(-1, "a", "x"))
	parsed(t, "<a/>", node(-1, "a", ""))
	parsed(t, prolog+"\n<a>1 &lt; 2</a>\n", node(-1, "a", "1 < 2"))
}

func TestElementsWithinElements(t *testing.T) {
	tells(t, row(open("a"), open("b"), end("b"), end("a")), node(-1, "a", ""), node(0, "b", ""))
	tells(t, row(open("a"), open("a"), words("x"), end("a"), empty("a"), end("a")), node(-1, "a", ""), node(0, "a", "x"), node(0, "a", ""))
	parsed(t, "<a> <b><c>1</c><d/></b>\n<e>2</e></a>", node(-1, "a", ""), node(0, "b", ""), node(1, "c", "1"), node(1, "d", ""), node(0, "e", "2"))
	// Each goes back to the one it stands in, however deep the one ahead was.
	parsed(t, "<a><b><c><d>1</d></c></b><e>2</e><f><g/><h>3</h></f></a>", node(-1, "a", ""), node(0, "b", ""), node(1, "c", ""), node(2, "d", "1"), node(0, "e", "2"), node(0, "f", ""), node(5, "g", ""), node(5, "h", "3"))
	// They stand in the order of their Opens, not of their Closes, nor of their names.
	parsed(t, "<c><b><a>1</a></b><a>2</a><b>3</b></c>", node(-1, "c", ""), node(0, "b", ""), node(1, "a", "1"), node(0, "a", "2"), node(0, "b", "3"))
}

func TestNoElement(t *testing.T) {
	refuses(t, nil, api.ErrTree)
	refuses(t, row(), api.ErrTree)
	unparsed(t, "", api.ErrTree)
	unparsed(t, prolog, api.ErrTree)
	for _, s := range blank() {
		refuses(t, row(words(s)), api.ErrTree)
		refuses(t, times(9, words(s)), api.ErrTree)
		unparsed(t, s, api.ErrTree)
		unparsed(t, prolog+s, api.ErrTree)
	}
}

// places are rows into which a token may be put: all ahead of it, and all behind, which are right without it.
func places() [][2][]api.Token {
	return [][2][]api.Token{
		{nil, row(empty("a"))},
		{row(words(" ")), row(open("a"), end("a"))},
		{row(open("a")), row(end("a"))},
		{row(open("a"), words("x")), row(end("a"))},
		{row(open("a"), empty("b")), row(end("a"))},
		{row(open("a"), open("b")), row(end("b"), end("a"))},
		{row(open("a"), open("b"), end("b")), row(open("c"), end("c"), end("a"))},
		{times(31, open("a")), times(31, end("a"))},
		{times(32, open("a")), times(32, end("a"))},
		{slices.Concat(row(open("a")), times(499, empty("b"))), row(end("a"))},
		{row(empty("a")), nil},
		{row(open("a"), end("a")), row(words("\n"))},
	}
}

func TestOpensWithoutAName(t *testing.T) {
	for _, p := range places() {
		only(t, slices.Concat(p[0], p[1]))
		for _, x := range []api.Token{open(""), empty(""), open("", "b", "1"), {Kind: api.Open, Text: "a"}, {Kind: api.Open, Text: "a", Empty: true}} {
			refuses(t, slices.Concat(p[0], row(x), p[1]), api.ErrToken)
			refuses(t, slices.Concat(p[0], row(x)), api.ErrToken)
			refuses(t, slices.Concat(p[0], row(x, end("")), p[1]), api.ErrToken)
		}
	}
}

func TestNamesAreTakenAsTheyAre(t *testing.T) {
	for _, n := range []string{" ", "<", "1", "\x00", "\xff", "é", "a b", "a/", "\n", strings.Repeat("n", 9_000)} {
		tells(t, row(open(n), words("x"), end(n)), node(-1, n, "x"))
		tells(t, row(open(n), empty(n), end(n)), node(-1, n, ""), node(0, n, ""))
	}
}

func TestElementsBehindTheFirstOne(t *testing.T) {
	for _, first := range [][]api.Token{row(empty("a")), row(open("a"), end("a")), row(open("a"), words("x"), end("a")), row(open("a"), open("b"), end("b"), end("a")), within(32), row(empty("a"), words(" "))} {
		only(t, first)
		for _, second := range [][]api.Token{row(empty("a")), row(empty("b")), row(open("a")), row(open("b"), end("b")), row(words("\n"), open("b"), end("b")), first} {
			refuses(t, slices.Concat(first, second), api.ErrTree)
			refuses(t, slices.Concat(first, second, second), api.ErrTree)
			refuses(t, slices.Concat(row(words(" ")), first, second, row(words(" "))), api.ErrTree)
		}
	}
	for _, s := range []string{"<a/><a/>", "<a/><b/>", "<a></a><a></a>", "<a>x</a>\n<b>y</b>", "<a/> <b>", "<a/><a>", "<a><b/></a><b/>"} {
		unparsed(t, s, api.ErrTree)
		unparsed(t, prolog+s, api.ErrTree)
	}
}

// deep are the nodes of so many elements, each within the other.
func deep(n int) []api.Node {
	var out []api.Node
	for i := range n {
		out = append(out, node(i-1, "a", ""))
	}
	return out
}

func TestAsManyWithinEachOtherAsMayBeAndOneMore(t *testing.T) {
	for _, n := range []int{1, 2, 31, 32} {
		tells(t, within(n), deep(n)...)
		parsed(t, strings.Repeat("<a>", n)+strings.Repeat("</a>", n), deep(n)...)
	}
	for _, n := range []int{33, 34, 100, 499, 500, 501, 2_000} {
		refuses(t, within(n), api.ErrDeep)
		refuses(t, times(n, open("a")), api.ErrDeep)
	}
	unparsed(t, strings.Repeat("<a>", 33)+strings.Repeat("</a>", 33), api.ErrDeep)
	unparsed(t, strings.Repeat("<a>", 33), api.ErrDeep)
}

func TestEmptyOnesAreTooDeepAsOthersAre(t *testing.T) {
	tells(t, within(31, empty("b")), append(deep(31), node(30, "b", ""))...)
	tells(t, within(31, empty("b"), empty("b")), append(deep(31), node(30, "b", ""), node(30, "b", ""))...)
	parsed(t, strings.Repeat("<a>", 31)+"<b/>"+strings.Repeat("</a>", 31), append(deep(31), node(30, "b", ""))...)
	refuses(t, within(32, empty("b")), api.ErrDeep)
	refuses(t, append(times(32, open("a")), empty("b")), api.ErrDeep)
	unparsed(t, strings.Repeat("<a>", 32)+"<b/>"+strings.Repeat("</a>", 32), api.ErrDeep)
}

func TestWhatWasClosedIsNotDeep(t *testing.T) {
	// As deep as may be, again and again, within as many as stay open.
	for n := 1; n < 32; n++ {
		deepest := within(32 - n)
		l := only(t, within(n, times(5, deepest...)...))
		if len(l) != n+5*(32-n) {
			t.Errorf("%d elements within %d, five times: %d nodes", 32-n, n, len(l))
		}
		follows(t, l)
		refuses(t, within(n, append(times(5, deepest...), within(33-n)...)...), api.ErrDeep)
		refuses(t, within(n, append(within(33-n), deepest...)...), api.ErrDeep)
	}
}

// many are rows of just 500 elements, in many shapes; the first one is still open behind them.
func many() [][]api.Token {
	leaf := row(open("b"), words("x"), end("b"))
	pair := row(open("b"), empty("c"), open("d"), end("d"), end("b"))
	return [][]api.Token{
		append(row(open("a")), times(499, empty("b"))...),
		append(row(open("a")), times(499, leaf...)...),
		append(row(open("a"), empty("b")), times(166, pair...)...),
		append(row(open("a")), slices.Concat(within(3), times(16, within(31)...))...),
		append(row(open("a")), slices.Concat(times(16, within(31)...), within(3))...),
		append(row(open("a")), within(30, times(469, empty("b"))...)...),
		append(row(open("a")), append(times(249, empty("b"), words(" ")), times(125, within(2)...)...)...),
	}
}

func TestAsManyElementsAsMayBeAndOneMore(t *testing.T) {
	for _, l := range many() {
		l = slices.Clip(l)
		got := only(t, append(l, end("a")))
		if len(got) != 500 {
			t.Fatalf("%s: %d nodes", short(l), len(got))
		}
		follows(t, got)
		only(t, append(l, words(" "), end("a"), words("\n")))
		for _, x := range [][]api.Token{row(empty("b")), row(open("b"), end("b")), within(31), row(words("\n"), empty("b"))} {
			refuses(t, slices.Concat(l, x, row(end("a"))), api.ErrBig)
			refuses(t, slices.Concat(l, x), api.ErrBig)
			refuses(t, append(l, x[0], open("b")), api.ErrBig)
			// One more ahead of all others: it is the last one that is too much.
			refuses(t, slices.Concat(l[:1], x, l[1:], row(end("a"))), api.ErrBig)
		}
		refuses(t, append(l, times(600, empty("b"))...), api.ErrBig)
		refuses(t, l, api.ErrTree)
		refuses(t, append(l, end("a"), empty("b")), api.ErrTree)
		refuses(t, append(l, open("")), api.ErrToken)
	}
	parsed(t, "<a>"+strings.Repeat("<b/>", 499)+"</a>", append(lone("a"), slices.Repeat([]api.Node{node(0, "b", "")}, 499)...)...)
	unparsed(t, "<a>"+strings.Repeat("<b/>", 500)+"</a>", api.ErrBig)
	unparsed(t, "<a>"+strings.Repeat("<b/>", 500), api.ErrBig)
}

// lone is one node, the first one, alone.
func lone(name string) []api.Node {
	return []api.Node{node(-1, name, "")}
}

func TestTooDeepIsNamedAheadOfTooMany(t *testing.T) {
	l := slices.Concat(row(open("a")), times(468, empty("b")), times(31, open("a")))
	only(t, slices.Concat(l, times(32, end("a"))))
	refuses(t, append(l, open("a")), api.ErrDeep)
	refuses(t, append(l, empty("a")), api.ErrDeep)
	refuses(t, append(l, open("")), api.ErrToken)
	refuses(t, append(l, end("a"), open("a")), api.ErrBig)
	refuses(t, append(l, end("a"), empty("a")), api.ErrBig)
}

func TestCloses(t *testing.T) {
	// Without an open element.
	for _, l := range [][]api.Token{row(end("a")), row(end("")), row(words(" "), end("a")), row(end("a"), open("a")), row(end("a"), open("a"), end("a")), row(empty("a"), end("a")), row(empty("a"), end(""))} {
		refuses(t, l, api.ErrTree)
	}
	// Of another Name: also one that is open further out, or begins alike.
	for _, l := range [][]api.Token{row(open("a"), end("b")), row(open("a"), end("")), row(open("a"), end("A")), row(open("a"), end("a ")), row(open("a"), end("aa")), row(open("aa"), end("a")), row(open("a"), open("b"), end("a"), end("b")), row(open("a"), open("b"), end("a")), row(open("a"), open("b"), end("b"), end("b")), row(open("a"), empty("b"), end("b"), end("a"))} {
		refuses(t, l, api.ErrTree)
	}
	for _, s := range []string{"</a>", "<a></b>", "<a><b></a></b>", "<a/></a>", "<a><b/></b></a>", "<a></A>"} {
		unparsed(t, s, api.ErrTree)
	}
	for n := 1; n <= 32; n++ {
		// One too many, and each number too few.
		refuses(t, append(within(n), end("a")), api.ErrTree)
		for k := range n {
			refuses(t, within(n)[:n+k], api.ErrTree)
			unparsed(t, strings.Repeat("<a>", n)+strings.Repeat("</a>", k), api.ErrTree)
		}
	}
	// Names may stand within their own.
	tells(t, row(open("a"), open("b"), open("a"), end("a"), end("b"), end("a")), node(-1, "a", ""), node(0, "b", ""), node(1, "a", ""))
}

func TestTextsOfAnElementWithoutElements(t *testing.T) {
	for _, s := range append(blank(), signs()...) {
		tells(t, row(open("a"), words(s), end("a")), node(-1, "a", s))
		tells(t, row(open("a"), open("b"), words(s), end("b"), end("a")), node(-1, "a", ""), node(0, "b", s))
		// In more than one piece, one behind the other.
		for _, z := range append(blank(), "y", "\xa9", "\xc3") {
			tells(t, row(open("a"), words(s), words(z), end("a")), node(-1, "a", s+z))
			tells(t, row(open("a"), words(z), words(s), words(z), words(""), words(s), end("a")), node(-1, "a", z+s+z+s))
		}
	}
	tells(t, row(open("a"), words("\xc3"), words("\xa9"), end("a")), node(-1, "a", "é"))
	parsed(t, "<a> x &amp; y </a>", node(-1, "a", " x & y "))
	parsed(t, "<a>&#32;</a>", node(-1, "a", " "))
}

func TestTextsInVeryManyPieces(t *testing.T) {
	l := row(open("a"), open("b"))
	for i := range 200_000 {
		l = append(l, words(strconv.Itoa(i%10)))
	}
	tells(t, append(l, end("b"), end("a")), node(-1, "a", ""), node(0, "b", strings.Repeat("0123456789", 20_000)))
}

// beside are rows of an element with elements in it and texts of s in some places beside them.
func beside(s string) [][]api.Token {
	x := words(s)
	kid := row(open("b"), words("y"), end("b"))
	return [][]api.Token{
		row(open("a"), x, empty("b"), end("a")),
		row(open("a"), empty("b"), x, end("a")),
		row(open("a"), x, empty("b"), x, end("a")),
		row(open("a"), empty("b"), x, empty("b"), end("a")),
		row(open("a"), x, x, empty("b"), x, x, empty("b"), x, x, end("a")),
		row(open("a"), words(" "), x, empty("b"), words("\n"), end("a")),
		row(open("a"), empty("b"), words(" "), words(""), x, end("a")),
		slices.Concat(row(open("a"), x), kid, row(end("a"))),
		slices.Concat(row(open("a")), kid, row(x), row(end("a"))),
		slices.Concat(row(open("a")), kid, row(x), kid, row(end("a"))),
		within(31, row(x, empty("b"))...),
		within(9, slices.Concat(kid, row(x))...),
	}
}

func TestTextsBesideElements(t *testing.T) {
	for _, s := range blank() {
		for _, l := range beside(s) {
			// Of blanks they are not told.
			for _, n := range only(t, l) {
				if n.Text != "" && n.Text != "y" {
					t.Errorf("Build of %s: a node has text %q", short(l), n.Text)
				}
			}
			agrees(t, l)
		}
	}
	for _, s := range signs() {
		for _, l := range beside(s) {
			refuses(t, l, api.ErrMixed)
			refuses(t, append(l, words(" ")), api.ErrMixed)
		}
	}
	tells(t, beside(" ")[9], node(-1, "a", ""), node(0, "b", "y"), node(0, "b", "y"))
	// Each text is its own element's: an inner one may have it where the outer one may not.
	tells(t, row(open("a"), words(" "), open("b"), words("1"), end("b"), words("\n"), open("b"), words("2"), end("b"), words(" "), end("a")), node(-1, "a", ""), node(0, "b", "1"), node(0, "b", "2"))
	for _, s := range []string{"<a>x<b/></a>", "<a><b/>x</a>", "<a><b/>x<b/></a>", "<a><b>1</b>x</a>", "<a><b>x<c/></b></a>", "<a><b><c/></b>x</a>", "<a>&amp;<b/></a>", "<a>\u00a0<b/></a>", "<a>x <b></b></a>"} {
		unparsed(t, s, api.ErrMixed)
	}
	parsed(t, "<a>&#32;&#x9;<b/>\r\n</a>", node(-1, "a", ""), node(0, "b", ""))
}

func TestTextsOutside(t *testing.T) {
	for _, s := range blank() {
		tells(t, row(words(s), empty("a")), node(-1, "a", ""))
		tells(t, row(empty("a"), words(s)), node(-1, "a", ""))
		tells(t, row(words(s), words(s), open("a"), words("x"), end("a"), words(s), words(s)), node(-1, "a", "x"))
		parsed(t, s+"<a/>"+s, node(-1, "a", ""))
		parsed(t, prolog+s+"<a>x</a>"+s, node(-1, "a", "x"))
	}
	for _, s := range signs() {
		for _, l := range [][]api.Token{row(words(s)), row(words(s), empty("a")), row(empty("a"), words(s)), row(words(s), open("a"), end("a")), row(open("a"), end("a"), words(s)), row(words(" "), words(s), empty("a")), row(empty("a"), words(" "), words(s))} {
			refuses(t, l, api.ErrTree)
		}
	}
	for _, s := range []string{"x", "x<a/>", "<a/>x", "<a></a>x", "&amp;<a/>", "\u00a0<a/>", "<a/>\ufeff"} {
		unparsed(t, s, api.ErrTree)
	}
}

func TestTokensOfOtherKinds(t *testing.T) {
	for _, kind := range []int{0, 4, -1, -2, -3, 5, 9, 255, 256, 257, 1 << 32, 1<<32 + 1, 1<<63 - 1, -1 << 63} {
		for _, x := range []api.Token{{Kind: kind}, {Kind: kind, Name: "a"}, {Kind: kind, Name: "a", Empty: true}, {Kind: kind, Text: " "}, {Kind: kind, Attrs: attrs("b", "1")}} {
			for _, p := range places() {
				refuses(t, slices.Concat(p[0], row(x), p[1]), api.ErrToken)
				refuses(t, slices.Concat(p[0], row(x)), api.ErrToken)
			}
			refuses(t, row(x), api.ErrToken)
		}
	}
}

// faulty are rows that are right but for their last token, and what that one is refused with.
func faulty() map[api.Errno][][]api.Token {
	return map[api.Errno][][]api.Token{
		api.ErrToken: {row(open("")), row(open("a"), empty("")), row(empty("a"), open("")), row(api.Token{}), row(open("a"), words("x"), open("b"), end("b"), api.Token{Kind: 4})},
		api.ErrTree:  {row(end("a")), row(words("x")), row(empty("a"), open("b")), row(open("a"), end("b")), row(open("a"), words("x"), empty("b"), end("b"))},
		api.ErrDeep:  {times(33, open("a")), append(times(32, open("a")), empty("b")), append(row(open("a"), words("x")), times(32, open("b"))...)},
		api.ErrBig:   {append(row(open("a")), times(500, empty("b"))...), append(row(open("a"), words("x")), times(500, empty("b"))...)},
	}
}

func TestTheFirstErrorCounts(t *testing.T) {
	all := faulty()
	for e, rows := range all {
		for _, l := range rows {
			refuses(t, l, e)
			for _, behind := range all {
				for _, m := range behind {
					// Whatever comes behind it, and whatever of that would be right there.
					refuses(t, slices.Concat(l, m), e)
					refuses(t, slices.Concat(l, m[len(m)-1:]), e)
				}
			}
			refuses(t, slices.Concat(l, times(32, end("a"))), e)
		}
	}
}

func TestTextBesideElementsIsNamedLast(t *testing.T) {
	mixed := row(open("a"), words("x"), empty("b"))
	refuses(t, append(mixed, end("a")), api.ErrMixed)
	refuses(t, mixed, api.ErrTree)
	refuses(t, slices.Concat(row(open("a")), mixed, row(end("a"))), api.ErrTree)
	refuses(t, append(mixed, end("a"), end("a")), api.ErrTree)
	refuses(t, append(mixed, end("a"), empty("a")), api.ErrTree)
	refuses(t, append(mixed, end("a"), words("x")), api.ErrTree)
	refuses(t, append(mixed, end("b")), api.ErrTree)
	refuses(t, append(mixed, end("a"), open("")), api.ErrToken)
	refuses(t, append(mixed, end("a"), api.Token{}), api.ErrToken)
	refuses(t, append(mixed, times(32, open("a"))...), api.ErrDeep)
	refuses(t, append(mixed, times(499, empty("a"))...), api.ErrBig)
	unparsed(t, "<a>x<b/>", api.ErrTree)
	unparsed(t, "<a>x<b/></a></a>", api.ErrTree)
	unparsed(t, "<a><b>x<c/></b>", api.ErrTree)
	unparsed(t, "<a>x<b/></a><", api.ErrToken)
}

func TestAttributes(t *testing.T) {
	with := func(n api.Node, l ...string) api.Node {
		n.Attrs = attrs(l...)
		return n
	}
	tells(t, row(empty("a", "b", "1")), with(node(-1, "a", ""), "b", "1"))
	tells(t, row(open("a", "c", "2", "b", "1"), open("d"), words("x"), end("d"), empty("e", "c", "3"), end("a")), with(node(-1, "a", ""), "c", "2", "b", "1"), node(0, "d", "x"), with(node(0, "e", ""), "c", "3"))
	// What they are is not asked here.
	tells(t, row(empty("a", "", "", "b", "<", "b", "\xff")), with(node(-1, "a", ""), "", "", "b", "<", "b", "\xff"))
	parsed(t, `<a xmlns="urn:x"><b c='1' d="&lt;">x</b></a>`, with(node(-1, "a", ""), "xmlns", "urn:x"), with(node(0, "b", "x"), "c", "1", "d", "<"))
	var l []string
	for i := range 3_000 {
		l = append(l, "n"+strconv.Itoa(i), strconv.Itoa(i))
	}
	tells(t, row(open("a", l...), end("a")), with(node(-1, "a", ""), l...))
	// None is none, whether there is a list or not.
	tells(t, row(api.Token{Kind: api.Open, Name: "a", Empty: true, Attrs: []api.Attr{}}), node(-1, "a", ""))
}

func TestEmptyElements(t *testing.T) {
	tells(t, row(empty("a")), node(-1, "a", ""))
	tells(t, row(empty("a"), words(" ")), node(-1, "a", ""))
	tells(t, row(open("a"), empty("b"), words(" "), end("a")), node(-1, "a", ""), node(0, "b", ""))
	tells(t, row(open("a"), words("\n"), empty("b"), end("a")), node(-1, "a", ""), node(0, "b", ""))
	// What comes behind one stands beside it, not in it.
	tells(t, row(open("a"), empty("b"), empty("c"), open("d"), end("d"), empty("b"), end("a")), node(-1, "a", ""), node(0, "b", ""), node(0, "c", ""), node(0, "d", ""), node(0, "b", ""))
	refuses(t, row(empty("a"), words("x")), api.ErrTree)
	refuses(t, row(empty("a"), empty("b")), api.ErrTree)
	refuses(t, row(empty("a"), end("a")), api.ErrTree)
	refuses(t, row(open("a"), empty("b"), end("b"), end("a")), api.ErrTree)
	refuses(t, row(open("a"), empty("b"), words("x"), end("a")), api.ErrMixed)
	refuses(t, row(open("a"), words("x"), empty("b"), end("a")), api.ErrMixed)
	// It is as if it were closed at once.
	for _, s := range []string{"<a><b/><b/><c>x</c></a>", "<a><b><c/></b><c/></a>", "<c/>", " <a> <c/> </a> "} {
		l, e := tree.Parse(strings.ReplaceAll(strings.ReplaceAll(s, "<b/>", "<b></b>"), "<c/>", "<c></c>"))
		if e != api.OK {
			t.Fatalf("Parse of %s, with ends: error %d", short(s), e)
		}
		parsed(t, s, l...)
	}
}

func TestWhatOfATokenPlaysNoPart(t *testing.T) {
	junk := func(x api.Token) api.Token {
		switch x.Kind {
		case api.Open:
			x.Text = "junk"
		case api.Close:
			x.Text, x.Attrs, x.Empty = "junk", attrs("b", "1"), true
		case api.Text:
			x.Name, x.Attrs, x.Empty = "junk", attrs("b", "1"), true
		}
		return x
	}
	for _, l := range [][]api.Token{row(empty("a")), row(open("a", "c", "2"), end("a")), row(open("a"), words("x"), end("a")), row(words(" "), open("a"), words(" "), open("b"), words("x"), words("y"), end("b"), empty("c"), words(" "), end("a"), words("\n")), row(open("a"), words("x"), empty("b"), end("a")), row(words("x")), row(end("a")), row(open("a"), end("b")), row(open("")), nil} {
		want, e := tree.Build(l)
		var full []api.Token
		for _, x := range l {
			full = append(full, junk(x))
		}
		if got, f := tree.Build(full); !same(got, want) || f != e {
			t.Errorf("Build of %s: %s, error %d; want %s, error %d", short(full), short(got), f, short(want), e)
		}
	}
}

func TestFilesThatTokenRefuses(t *testing.T) {
	for s, want := range map[string]api.Errno{
		"<":                                 api.ErrToken,
		"<a":                                api.ErrToken,
		"<a>&</a>":                          api.ErrToken,
		"<a><!-- --></a>":                   api.ErrToken,
		"</a><":                             api.ErrToken,
		"x<a/><b/>&":                        api.ErrToken,
		"<a>x<b/></a><!":                    api.ErrToken,
		"<a b='1' b='2'/>":                  api.ErrToken,
		"<a/>" + prolog:                     api.ErrToken,
		"\x00":                              api.ErrUtf,
		"</a>\xff":                          api.ErrUtf,
		"<\xff":                             api.ErrUtf,
		"<a>\ufffe</a>":                     api.ErrUtf,
		"<a>\xc3<b/>\xa9</a>":               api.ErrUtf,
		"</a>" + strings.Repeat("x", 4_093): api.ErrBig,
		"<" + strings.Repeat("\xff", 4_096): api.ErrBig,
		"<a>" + strings.Repeat("x", 4_090) + "</a>":                        api.ErrBig,
		strings.Repeat("<a>", 600) + strings.Repeat("</a>", 600):           api.ErrBig,
		"<a>" + strings.Repeat(" ", 4_080) + strings.Repeat("<", 9) + "/>": api.ErrToken,
	} {
		if _, e := token.Tokens(s); e != want {
			t.Errorf("Tokens of %s: error %d; want %d", short(s), e, want)
		}
		unparsed(t, s, want)
	}
	x := strings.Repeat("x", 4_089)
	parsed(t, "<a>"+x+"</a>", node(-1, "a", x))
}

// kids fails unless Kids of i in l answers just these.
func kids(t *testing.T, l []api.Node, i int, want ...int) {
	t.Helper()
	if got := tree.Kids(l, i); !slices.Equal(got, want) {
		t.Errorf("Kids of %d in %s: %v; want %v", i, short(l), got, want)
	}
}

// numbers are some that are no place of any list that is shorter than 1,000.
func numbers() []int {
	return []int{-1, -2, -3, 1_000, 1 << 31, 1 << 32, 1<<63 - 1, -1 << 63, -1 << 31}
}

func TestKidsOfEachNode(t *testing.T) {
	l, e := tree.Parse("<a><b><c/><d>x</d></b><e/><f><g><h/></g></f></a>")
	if e != api.OK {
		t.Fatalf("error %d", e)
	}
	for i, want := range [][]int{{1, 4, 5}, {2, 3}, nil, nil, nil, {6}, {7}, nil} {
		kids(t, l, i, want...)
	}
	for _, i := range append(numbers(), 8, 9) {
		kids(t, l, i)
	}
	kids(t, lone("a"), 0)
	wide := only(t, append(many()[0], end("a")))
	var all []int
	for i := 1; i < 500; i++ {
		all = append(all, i)
		kids(t, wide, i)
	}
	kids(t, wide, 0, all...)
}

func TestKidsOfNoNodes(t *testing.T) {
	for _, i := range append(numbers(), 0, 1, 2) {
		kids(t, nil, i)
		kids(t, []api.Node{}, i)
		// What is behind the end of a list is not in it.
		kids(t, []api.Node{{Parent: 0}, {Parent: -1}, {Parent: 1}}[:0], i)
	}
	kids(t, []api.Node{{Parent: -1}, {Parent: 0}, {Parent: 0}, {Parent: 2}}[:2], 0, 1)
	kids(t, []api.Node{{Parent: -1}, {Parent: 0}, {Parent: 0}, {Parent: 2}}[:2], 2)
}

func TestKidsOfNodesInAnyOrderWithAnyParent(t *testing.T) {
	l := []api.Node{{Parent: 2}, {Parent: 0}, {Parent: 0}, {Parent: 3}, {Parent: -1}, {Parent: 2}, {Parent: -2}, {Parent: 8}, {Parent: 9}, {Parent: 0}, {Parent: 10}, {Parent: 11}, {Parent: 1<<63 - 1}, {Parent: -1 << 63}, {Parent: 14}, {Parent: 15}}
	for i, want := range [][]int{{1, 2, 9}, nil, {0, 5}, {3}, nil, nil, nil, nil, {7}, {8}, {10}, {11}, nil, nil, {14}, {15}} {
		kids(t, l, i, want...)
	}
	// Numbers that some have as their Parent, but that are no place.
	kids(t, l[:15], 15)
	kids(t, l[:11], 11)
	for _, i := range append(numbers(), 16, 17) {
		kids(t, l, i)
		none := slices.Repeat([]api.Node{{Parent: i}}, 9)
		kids(t, none, i)
	}
	r := rand.New(rand.NewSource(3))
	for range 2_000 {
		l := make([]api.Node, r.Intn(9))
		want := map[int][]int{}
		for k := range l {
			l[k].Parent = r.Intn(len(l)+4) - 2
			want[l[k].Parent] = append(want[l[k].Parent], k)
		}
		for i := -3; i < len(l)+4; i++ {
			if i < 0 || i >= len(l) {
				want[i] = nil
			}
			kids(t, l, i, want[i]...)
		}
	}
}

// all hands f every row of up to so many of the tokens.
func all(parts []api.Token, longest int, f func([]api.Token)) {
	var rows func([]api.Token, int)
	rows = func(l []api.Token, left int) {
		f(l)
		if left == 0 {
			return
		}
		for _, p := range parts {
			rows(append(slices.Clip(l), p), left-1)
		}
	}
	rows(nil, longest)
}

func TestAllShortRows(t *testing.T) {
	all(row(open("a"), open("b", "c", "1"), empty("a"), end("a"), end("b"), words(" "), words("x"), open(""), api.Token{}), 5, func(l []api.Token) { agrees(t, l) })
	all(row(open("a"), empty("b"), end("a"), words("\n"), words("x")), 7, func(l []api.Token) { agrees(t, l) })
	all(row(open("a"), open("b"), empty("c"), end("a"), end("b")), 7, func(l []api.Token) { agrees(t, l) })
}

// chance is nodes as Build tells them, at most so many.
func chance(r *rand.Rand, most int) []api.Node {
	l := []api.Node{{Parent: -1, Name: "a"}}
	deep := []int{1}
	for range r.Intn(most) {
		// Of the last one, or of one that it stands in.
		p := len(l) - 1
		for deep[p] == 32 || p > 0 && r.Intn(3) == 0 {
			p = l[p].Parent
		}
		l[p].Text = ""
		n := api.Node{Parent: p, Name: string("abc"[r.Intn(3)])}
		if r.Intn(2) == 0 {
			n.Text = signs()[r.Intn(3)]
		}
		if r.Intn(4) == 0 {
			n.Attrs = attrs("x", strconv.Itoa(r.Intn(9)), "y", "")
		}
		l, deep = append(l, n), append(deep, deep[p]+1)
	}
	return l
}

// written is the element of node i as tokens, with what stands in it.
func written(r *rand.Rand, l []api.Node, i int) []api.Token {
	x := open(l[i].Name)
	x.Attrs = l[i].Attrs
	var inside []api.Token
	for k := i + 1; k < len(l); k++ {
		if l[k].Parent == i {
			inside = append(inside, written(r, l, k)...)
			inside = append(inside, times(r.Intn(2), words(blank()[r.Intn(8)]))...)
		}
	}
	s := l[i].Text
	if s == "" && len(inside) == 0 && r.Intn(2) == 0 {
		x.Empty = true
		return row(x)
	}
	for s != "" {
		n := 1 + r.Intn(len(s))
		inside = append(inside, words(s[:n]))
		s = s[n:]
	}
	return slices.Concat(row(x), inside, row(end(l[i].Name)))
}

func TestTreesAreToldAsTheyWereWritten(t *testing.T) {
	r := rand.New(rand.NewSource(4))
	for _, most := range []int{3, 9, 60, 500} {
		for range 300 {
			want := chance(r, most)
			l := written(r, want, 0)
			tells(t, l, want...)
			follows(t, only(t, l))
			tells(t, slices.Concat(row(words("\n")), l, row(words(" "))), want...)
		}
	}
}

func TestTreesWithATokenTurned(t *testing.T) {
	r := rand.New(rand.NewSource(5))
	parts := row(open("a"), open("b"), empty("c"), end("a"), end("b"), end("c"), words(" "), words("x"), words(""), open(""), api.Token{}, api.Token{Kind: 4})
	for range 20_000 {
		l := written(r, chance(r, 9), 0)
		n, x := r.Intn(len(l)), parts[r.Intn(len(parts))]
		agrees(t, slices.Insert(slices.Clone(l), n, x))
		agrees(t, slices.Delete(slices.Clone(l), n, n+1))
		agrees(t, l[:n])
		l[n] = x
		agrees(t, l)
	}
}

func TestParseIsBuildOfTheTokens(t *testing.T) {
	r := rand.New(rand.NewSource(6))
	parts := []string{"<a>", "<a>", "<b c='1'>", "</a>", "</a>", "</b>", "<a/>", "<b/>", " ", "x", "&lt;", "&#32;", "<", "&", "\xff", prolog}
	for range 50_000 {
		s := ""
		for range r.Intn(9) {
			s += parts[r.Intn(len(parts))]
		}
		l, e := token.Tokens(s)
		if e != api.OK {
			unparsed(t, s, e)
			continue
		}
		agrees(t, l)
		want, e := tree.Build(l)
		if e != api.OK {
			unparsed(t, s, e)
			continue
		}
		parsed(t, s, want...)
	}
}

func TestTheSameIsToldAlike(t *testing.T) {
	l := row(open("a", "b", "1"), empty("b"), open("c"), words("x"), end("c"), end("a"))
	first := only(t, l)
	for range 9 {
		refuses(t, row(open("a")), api.ErrTree)
		refuses(t, times(33, open("a")), api.ErrDeep)
		tells(t, l, first...)
		kids(t, first, 0, 1, 2)
	}
}

func TestWhatIsHandedInStays(t *testing.T) {
	list := append(attrs("b", "1", "c", "2"), attrs("d", "3")...)
	made := func() []api.Token {
		x := api.Token{Kind: api.Open, Name: "a", Attrs: slices.Clone(list)[:2]}
		return append(row(x, words("x"), words("y"), end("a")), words("room"), empty("room"))
	}
	for _, n := range []int{0, 1, 3, 4} {
		l := made()
		tree.Build(l[:n])
		if !reflect.DeepEqual(l, made()) || !slices.Equal(l[0].Attrs[:3], list) {
			t.Errorf("after Build of the first %d: %s", n, short(l))
		}
	}
	nodes := []api.Node{node(-1, "a", ""), node(0, "b", "x"), node(0, "c", ""), node(2, "d", "")}
	for n := range 5 {
		l := slices.Clone(nodes)
		tree.Kids(l[:n], 0)
		if !same(l, nodes) {
			t.Errorf("after Kids in the first %d: %s", n, short(l))
		}
	}
}

func TestWhatIsHandedOutIsNewMemory(t *testing.T) {
	// One list of attributes for all, with room behind its end.
	list := append(attrs("b", "1", "c", "2"), attrs("d", "3")...)
	x, y := api.Token{Kind: api.Open, Name: "a", Attrs: list[:2]}, api.Token{Kind: api.Open, Name: "b", Attrs: list[:2], Empty: true}
	l := row(x, y, y, end("a"))
	want := only(t, l)
	for i := range want {
		got, again := only(t, l), only(t, l)
		got[i].Attrs[0] = api.Attr{Name: "z", Value: "9"}
		_ = append(got[i].Attrs, attrs("z", "1", "z", "2", "z", "3")...)
		for j := range got {
			if j != i && !same(got[j:j+1], want[j:j+1]) {
				t.Errorf("after node %d was written into, node %d: %s", i, j, short(got[j]))
			}
		}
		got[i] = api.Node{}
		_ = append(got[:1], node(9, "z", "z"))
		if !same(again, want) {
			t.Errorf("after an answer was written into, another one: %s", short(again))
		}
		if !slices.Equal(list, attrs("b", "1", "c", "2", "d", "3")) {
			t.Fatalf("after an answer was written into, what was handed in: %s", short(list))
		}
		k := tree.Kids(again, 0)
		k[0] = 9
		_ = append(k[:1], 9)
		kids(t, again, 0, 1, 2)
	}
	// What is handed in may be written into afterwards.
	got := only(t, l)
	list[0], l[1] = api.Attr{Name: "z"}, api.Token{}
	if !same(got, want) {
		t.Errorf("after what was handed in was written into, the answer: %s", short(got))
	}
}
