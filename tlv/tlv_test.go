package tlv_test

import (
	"bytes"
	"math"
	"math/rand"
	"slices"
	"strconv"
	"strings"
	"sync"
	"testing"

	"comptoir/api"
	"comptoir/tlv"
)

// doubles are the first bytes of tags that have a second one.
func doubles() []byte {
	return []byte{31, 63, 95, 127, 159, 191, 223}
}

// numbers are all tags that there are, with the bytes of each: made once, and only read.
var numbers = sync.OnceValue(func() map[int][]byte {
	out := map[int][]byte{}
	for n := 1; n < 255; n++ {
		if !slices.Contains(doubles(), byte(n)) {
			out[n] = []byte{byte(n)}
		}
	}
	for _, first := range doubles() {
		for second := range 128 {
			out[256*int(first)+second] = []byte{first, byte(second)}
		}
	}
	return out
})

// rising are all tags that there are.
func rising() []int {
	var out []int
	for n := range numbers() {
		out = append(out, n)
	}
	slices.Sort(out)
	return out
}

// row is n bytes of no plain pattern; rows of other seeds differ.
func row(n int, seed int64) []byte {
	b := make([]byte, n)
	rand.New(rand.NewSource(seed)).Read(b)
	return b
}

// tagged is a tag with so many bytes.
func tagged(tag, n int) api.Tag {
	return api.Tag{Tag: tag, Data: row(n, int64(tag))}
}

// sized is a length as it stands ahead of data.
func sized(n int) []byte {
	if n < 128 {
		return []byte{byte(n)}
	}
	return []byte{129, byte(n)}
}

// bytesOf is all of l as it is written, if it may be.
func bytesOf(l []api.Tag) []byte {
	var out []byte
	for _, x := range l {
		out = slices.Concat(out, numbers()[x.Tag], sized(len(x.Data)), x.Data)
	}
	return out
}

// few are n tags with a byte each, all of them different.
func few(n int) []api.Tag {
	var out []api.Tag
	for i := range n {
		out = append(out, api.Tag{Tag: 1 + i, Data: []byte{byte(200 + i)}})
	}
	return out
}

// told is what the chapter tells of b, asked anew.
func told(b []byte) ([]api.Tag, api.Errno) {
	var out []api.Tag
	seen := map[int]bool{}
	for at := 0; at < len(b); {
		if len(out) == 20 {
			return nil, api.ErrBig
		}
		tag := int(b[at])
		at++
		if slices.Contains(doubles(), byte(tag)) {
			if at == len(b) {
				return nil, api.ErrShort
			}
			tag = tag*256 + int(b[at])
			at++
		}
		if _, is := numbers()[tag]; !is || seen[tag] {
			return nil, api.ErrTag
		}
		seen[tag] = true
		n, width, e := lengthOf(b[at:])
		if e != api.OK {
			return nil, e
		}
		at += width
		if len(b)-at < n {
			return nil, api.ErrShort
		}
		out = append(out, api.Tag{Tag: tag, Data: b[at : at+n]})
		at += n
	}
	return out, api.OK
}

// lengthOf is the length at the beginning of b, and how many bytes it takes.
func lengthOf(b []byte) (n, width int, e api.Errno) {
	switch {
	case len(b) == 0:
		return 0, 0, api.ErrShort
	case b[0] <= 127:
		return int(b[0]), 1, api.OK
	case b[0] != 129:
		return 0, 0, api.ErrLength
	case len(b) == 1:
		return 0, 0, api.ErrShort
	case b[1] <= 127:
		return 0, 0, api.ErrLength
	}
	return int(b[1]), 2, api.OK
}

// wrote is what the chapter tells of l, asked anew.
func wrote(l []api.Tag) ([]byte, api.Errno) {
	if len(l) > 20 {
		return nil, api.ErrBig
	}
	seen := map[int]bool{}
	for _, x := range l {
		if _, is := numbers()[x.Tag]; !is || seen[x.Tag] {
			return nil, api.ErrTag
		}
		if len(x.Data) >= 256 {
			return nil, api.ErrLength
		}
		seen[x.Tag] = true
	}
	return bytesOf(l), api.OK
}

// same tells whether both have the same tags.
func same(x, y []api.Tag) bool {
	return slices.EqualFunc(x, y, func(a, b api.Tag) bool {
		return a.Tag == b.Tag && bytes.Equal(a.Data, b.Data)
	})
}

// short names bytes in what a test tells.
func short(b []byte) string {
	if len(b) > 60 {
		return strconv.Itoa(len(b)) + " bytes, from " + short(b[:20])
	}
	var out []string
	for _, x := range b {
		out = append(out, strconv.Itoa(int(x)))
	}
	return "(" + strings.Join(out, " ") + ")"
}

// shorts names tags.
func shorts(l []api.Tag) string {
	var out []string
	for _, x := range l {
		out = append(out, strconv.Itoa(x.Tag)+short(x.Data))
	}
	return "[" + strings.Join(out, " ") + "]"
}

// parses fails unless Parse of b answers just that.
func parses(t *testing.T, b []byte, want []api.Tag, fault api.Errno) {
	t.Helper()
	if got, e := tlv.Parse(b); !same(got, want) || e != fault {
		t.Fatalf("Parse%s: %s, error %d; want %s, error %d", short(b), shorts(got), e, shorts(want), fault)
	}
}

// writes fails unless Write of l answers just that.
func writes(t *testing.T, l []api.Tag, want []byte, fault api.Errno) {
	t.Helper()
	if got, e := tlv.Write(l); !bytes.Equal(got, want) || e != fault {
		t.Fatalf("Write%s: %s, error %d; want %s, error %d", shorts(l), short(got), e, short(want), fault)
	}
}

// both fails unless l is written as b, and b parsed as l.
func both(t *testing.T, l []api.Tag, b []byte) {
	t.Helper()
	writes(t, l, b, api.OK)
	parses(t, b, l, api.OK)
}

// asked fails unless Parse of b answers what the chapter tells, and what it told is written as b.
func asked(t *testing.T, b []byte) {
	t.Helper()
	want, fault := told(b)
	parses(t, b, want, fault)
	if fault == api.OK {
		writes(t, want, b, api.OK)
	}
}

func TestTheChaptersExample(t *testing.T) {
	both(t, []api.Tag{{Tag: 149, Data: []byte{7}}}, []byte{149, 1, 7})
}

func TestOfNothing(t *testing.T) {
	both(t, nil, nil)
	both(t, []api.Tag{}, []byte{})
	// Nothing is left, whatever stands in the room behind.
	both(t, few(9)[:0], row(9, 1)[:0])
}

func TestOrdinaryTags(t *testing.T) {
	both(t, []api.Tag{
		{Tag: 0x9f26, Data: []byte{1, 2, 3, 4, 5, 6, 7, 8}},
		{Tag: 0x9f27, Data: []byte{128}},
		{Tag: 0x82, Data: []byte{0x38, 0}},
		{Tag: 0x5f2a, Data: []byte{9, 0x78}},
		{Tag: 0x95, Data: []byte{0, 0, 0, 0, 0}},
		{Tag: 0x84},
	}, []byte{
		0x9f, 0x26, 8, 1, 2, 3, 4, 5, 6, 7, 8,
		0x9f, 0x27, 1, 128,
		0x82, 2, 0x38, 0,
		0x5f, 0x2a, 2, 9, 0x78,
		0x95, 5, 0, 0, 0, 0, 0,
		0x84, 0,
	})
}

func TestEachTag(t *testing.T) {
	all := numbers()
	if len(all) != 247+7*128 {
		t.Fatalf("%d tags", len(all))
	}
	for n, b := range all {
		both(t, []api.Tag{{Tag: n}}, append(bytes.Clone(b), 0))
		both(t, []api.Tag{{Tag: n, Data: []byte{b[0], 0, 255}}}, append(bytes.Clone(b), 3, b[0], 0, 255))
	}
}

func TestEdgesOfTags(t *testing.T) {
	for _, n := range []int{1, 30, 32, 62, 64, 94, 96, 126, 128, 158, 160, 190, 192, 222, 224, 254, 0x1f00, 0x1f7f, 0x3f00, 0x5f7f, 0x7f1f, 0x9f00, 0x9f7f, 0xbf00, 0xdf00, 0xdf7f} {
		if _, e := tlv.Write([]api.Tag{{Tag: n}}); e != api.OK {
			t.Errorf("Write of tag %d: error %d", n, e)
		}
	}
	for _, n := range []int{0, 31, 63, 95, 127, 159, 191, 223, 255, 256, 0x1eff, 0x1f80, 0x1fff, 0x2000, 0x9e01, 0x9f80, 0x9fff, 0xa001, 0xdf80, 0xff00, 0xff01, 0xff7f, 0xffff, 0x10001, 0x11f01} {
		if b, e := tlv.Write([]api.Tag{{Tag: n}}); e != api.ErrTag || len(b) > 0 {
			t.Errorf("Write of tag %d: %s, error %d", n, short(b), e)
		}
	}
}

func TestWriteOfEachNumber(t *testing.T) {
	all := numbers()
	try := func(n int) {
		if b, is := all[n]; is {
			writes(t, []api.Tag{{Tag: n}}, append(bytes.Clone(b), 0), api.OK)
		} else {
			writes(t, []api.Tag{{Tag: n}}, nil, api.ErrTag)
		}
	}
	for n := -70_000; n <= 200_000; n++ {
		try(n)
	}
	for _, far := range []int{math.MaxInt, math.MinInt, math.MaxInt32, math.MinInt32, math.MaxUint32, 1 << 24, 1 << 48} {
		try(far)
		// Their lowest bits are those of tags.
		for _, n := range []int{1, 2, 149, 254, 0x1f00, 0x9f02, 0xdf7f} {
			try(far + n)
			try(far - n)
			try(far&^0xffff | n)
			try(-n)
		}
	}
	for n := range all {
		for up := 16; up < 63; up++ {
			try(n | 1<<up)
		}
		try(n | math.MinInt)
	}
}

func TestParseOfAllFirstBytes(t *testing.T) {
	all := numbers()
	for x := range 256 {
		first := byte(x)
		_, single := all[x]
		switch {
		case single:
			parses(t, []byte{first}, nil, api.ErrShort)
			parses(t, []byte{first, 0}, []api.Tag{{Tag: x}}, api.OK)
		case slices.Contains(doubles(), first):
			parses(t, []byte{first}, nil, api.ErrShort)
		default:
			// No tag begins so, whatever comes.
			parses(t, []byte{first}, nil, api.ErrTag)
			parses(t, []byte{first, 0}, nil, api.ErrTag)
			parses(t, []byte{first, 1, 0}, nil, api.ErrTag)
			parses(t, []byte{first, 129, 200}, nil, api.ErrTag)
		}
	}
}

func TestParseOfAllSecondBytes(t *testing.T) {
	for _, first := range doubles() {
		for second := range 256 {
			b := []byte{first, byte(second)}
			if second >= 128 {
				parses(t, b, nil, api.ErrTag)
				parses(t, append(b, 0), nil, api.ErrTag)
				parses(t, append(b, 1, 0), nil, api.ErrTag)
				continue
			}
			tag := int(first)*256 + second
			parses(t, b, nil, api.ErrShort)
			parses(t, append(b, 0), []api.Tag{{Tag: tag}}, api.OK)
			parses(t, append(b, 1, 255), []api.Tag{{Tag: tag, Data: []byte{255}}}, api.OK)
		}
	}
}

func TestEachLengthThatMayBe(t *testing.T) {
	for n := range 256 {
		for _, tag := range []int{1, 149, 254, 0x1f00, 0x9f7f} {
			x := tagged(tag, n)
			b := slices.Concat(numbers()[tag], sized(n), x.Data)
			both(t, []api.Tag{x}, b)
			// With one ahead, and one behind.
			both(t, []api.Tag{{Tag: 7, Data: []byte{9}}, x, {Tag: 0x5f01}}, slices.Concat([]byte{7, 1, 9}, b, []byte{0x5f, 1, 0}))
		}
	}
}

func TestParseOfEachFirstByteOfALength(t *testing.T) {
	rest := row(400, 5)
	rest[0] = 200
	for x := range 256 {
		b := append([]byte{1, byte(x)}, rest...)
		switch {
		case x < 128:
			parses(t, b[:2+x], []api.Tag{{Tag: 1, Data: rest[:x]}}, api.OK)
		case x == 129:
			parses(t, b[:2], nil, api.ErrShort)
			parses(t, b[:3+200], []api.Tag{{Tag: 1, Data: rest[1:201]}}, api.OK)
		default:
			// Not told as too short, however little is there.
			parses(t, b[:2], nil, api.ErrLength)
			parses(t, b[:3], nil, api.ErrLength)
			parses(t, b, nil, api.ErrLength)
		}
	}
}

func TestParseOfEachSecondByteOfALength(t *testing.T) {
	rest := row(255, 6)
	for x := range 256 {
		b := append([]byte{1, 129, byte(x)}, rest...)
		if x < 128 {
			// A shorter way to say it there is.
			parses(t, b[:3], nil, api.ErrLength)
			parses(t, b[:3+x], nil, api.ErrLength)
			parses(t, b, nil, api.ErrLength)
			continue
		}
		parses(t, b[:3], nil, api.ErrShort)
		parses(t, b[:3+x-1], nil, api.ErrShort)
		parses(t, b[:3+x], []api.Tag{{Tag: 1, Data: rest[:x]}}, api.OK)
	}
}

func TestParseOfLengthsOfMoreBytes(t *testing.T) {
	for _, ahead := range [][]byte{{128}, {130, 1, 0}, {130, 0, 200}, {131, 0, 0, 200}, {132, 0, 0, 0, 1}, {255, 255}} {
		parses(t, slices.Concat([]byte{1}, ahead, row(300, 7)), nil, api.ErrLength)
	}
}

func TestWriteOfTooMuchData(t *testing.T) {
	for _, n := range []int{256, 257, 300, 383, 384, 511, 512, 65_535, 65_536, 65_537, 65_536 + 200, 131_072, 1 << 24} {
		x := api.Tag{Tag: 1, Data: make([]byte, n)}
		writes(t, []api.Tag{x}, nil, api.ErrLength)
		writes(t, []api.Tag{{Tag: 2}, x}, nil, api.ErrLength)
		writes(t, []api.Tag{x, {Tag: 2}}, nil, api.ErrLength)
	}
	for at := range 20 {
		l := few(20)
		l[at].Data = make([]byte, 256)
		writes(t, l, nil, api.ErrLength)
	}
}

func TestParseOfEachCut(t *testing.T) {
	l := []api.Tag{tagged(0x9f26, 8), tagged(0x95, 5), tagged(0x5f01, 0), tagged(3, 127), tagged(0xdf7f, 128), tagged(1, 0), tagged(0x1f00, 255), tagged(254, 1)}
	whole := bytesOf(l)
	ends := map[int]int{0: 0}
	for i := range l {
		ends[len(bytesOf(l[:i+1]))] = i + 1
	}
	for n := range len(whole) + 1 {
		if i, is := ends[n]; is {
			parses(t, whole[:n], l[:i], api.OK)
		} else {
			// What is missing stands in the room behind, where it plays no part.
			parses(t, whole[:n], nil, api.ErrShort)
			parses(t, bytes.Clone(whole[:n]), nil, api.ErrShort)
		}
	}
}

func TestAsManyTagsAsMayBe(t *testing.T) {
	for n := range 21 {
		both(t, few(n), bytesOf(few(n)))
	}
	// The greatest that may be: each of two bytes, with as much data as may be.
	var most []api.Tag
	for i := range 20 {
		most = append(most, tagged(0x9f00+i, 255))
	}
	b := bytesOf(most)
	if len(b) != 20*(2+2+255) {
		t.Fatalf("%d bytes", len(b))
	}
	both(t, most, b)
}

func TestWriteOfTooManyTags(t *testing.T) {
	for _, n := range []int{21, 22, 40, 200, 276, 100_000} {
		writes(t, few(n), nil, api.ErrBig)
		writes(t, make([]api.Tag, n), nil, api.ErrBig)
	}
	// It counts ahead of all that a tag may be wrong by, wherever that stands.
	for at := range 21 {
		for _, x := range []api.Tag{{Tag: 0}, {Tag: -1}, {Tag: 1}, {Tag: 255}, {Tag: 99, Data: make([]byte, 256)}, {Tag: 31, Data: make([]byte, 256)}} {
			l := few(21)
			l[at] = x
			writes(t, l, nil, api.ErrBig)
		}
	}
}

func TestParseOfTooManyTags(t *testing.T) {
	full := bytesOf(few(20))
	// Whatever is left: it is not asked what it is.
	for x := range 256 {
		parses(t, append(bytes.Clone(full), byte(x)), nil, api.ErrBig)
		parses(t, append(bytes.Clone(full), byte(x), 0), nil, api.ErrBig)
		parses(t, append(bytes.Clone(full), byte(x), 1, 0), nil, api.ErrBig)
	}
	for _, n := range []int{21, 22, 30, 200} {
		parses(t, bytesOf(few(n)), nil, api.ErrBig)
	}
	parses(t, append(bytes.Clone(full), make([]byte, 1<<20)...), nil, api.ErrBig)
	// What is wrong ahead of that counts.
	for at := range 20 {
		b := bytesOf(few(21))
		b[3*at] = 0
		parses(t, b, nil, api.ErrTag)
		b = bytesOf(few(21))
		b[3*at+1] = 128
		parses(t, b, nil, api.ErrLength)
		b = bytesOf(few(21))
		b[3*at+1] = 127
		parses(t, b, nil, api.ErrShort)
	}
	// The last one too: it is asked ahead of whether more come.
	b := bytesOf(few(20))
	parses(t, b[:len(b)-1], nil, api.ErrShort)
}

func TestTheSameTagTwice(t *testing.T) {
	for n, b := range numbers() {
		for _, data := range [][]byte{nil, {1}, {5, 6}} {
			writes(t, []api.Tag{{Tag: n, Data: []byte{1}}, {Tag: n, Data: data}}, nil, api.ErrTag)
			parses(t, slices.Concat(b, []byte{1, 1}, b, sized(len(data)), data), nil, api.ErrTag)
		}
		// Asked ahead of its length.
		parses(t, slices.Concat(b, []byte{1, 1}, b), nil, api.ErrTag)
		parses(t, slices.Concat(b, []byte{1, 1}, b, []byte{128}), nil, api.ErrTag)
	}
	for first := range 20 {
		for second := first + 1; second < 20; second++ {
			l := few(20)
			b := bytesOf(l)
			l[second].Tag = l[first].Tag
			b[3*second] = b[3*first]
			writes(t, l, nil, api.ErrTag)
			parses(t, b, nil, api.ErrTag)
		}
	}
}

func TestTagsWithABitOfAnother(t *testing.T) {
	// Each has a byte that another one has too, in the same place or another.
	l := []api.Tag{{Tag: 0x9f02}, {Tag: 2}, {Tag: 0x9f03}, {Tag: 0x5f02}, {Tag: 0x1f5f}, {Tag: 0x5f1f}, {Tag: 0x5f5f}, {Tag: 0x9f00}, {Tag: 0x1f01}, {Tag: 1}, {Tag: 0x82}, {Tag: 0x9f7f}, {Tag: 0x7f7f}}
	both(t, l, bytesOf(l))
	slices.Reverse(l)
	both(t, l, bytesOf(l))
	// Data is no tag, whatever it looks like.
	both(t, []api.Tag{{Tag: 1, Data: []byte{1, 1, 1}}, {Tag: 2, Data: []byte{1, 0}}}, []byte{1, 3, 1, 1, 1, 2, 2, 1, 0})
}

func TestTagsNeedNotRise(t *testing.T) {
	l := []api.Tag{{Tag: 254}, {Tag: 1}, {Tag: 0x9f02}, {Tag: 30}, {Tag: 0x1f00}, {Tag: 2}}
	both(t, l, []byte{254, 0, 1, 0, 0x9f, 2, 0, 30, 0, 0x1f, 0, 0, 2, 0})
}

func TestWhichErrorCountsInWrite(t *testing.T) {
	long := make([]byte, 256)
	for _, r := range []struct {
		l    []api.Tag
		want api.Errno
	}{
		// One tag: what its Tag is ahead of how much Data it has.
		{[]api.Tag{{Tag: 0, Data: long}}, api.ErrTag},
		{[]api.Tag{{Tag: 31, Data: long}}, api.ErrTag},
		{[]api.Tag{{Tag: 1}, {Tag: 1, Data: long}}, api.ErrTag},
		// Tag by tag: an earlier one's fault ahead of a later one's.
		{[]api.Tag{{Tag: 1, Data: long}, {Tag: 0}}, api.ErrLength},
		{[]api.Tag{{Tag: 1, Data: long}, {Tag: 1}}, api.ErrLength},
		{[]api.Tag{{Tag: 1, Data: long}, {Tag: 1, Data: long}}, api.ErrLength},
		{[]api.Tag{{Tag: 0}, {Tag: 1, Data: long}}, api.ErrTag},
		{[]api.Tag{{Tag: 1}, {Tag: 1}, {Tag: 2, Data: long}}, api.ErrTag},
		{[]api.Tag{{Tag: 1}, {Tag: 2, Data: long}, {Tag: 1}}, api.ErrLength},
	} {
		writes(t, r.l, nil, r.want)
	}
}

func TestWhichErrorCountsInParse(t *testing.T) {
	for _, r := range []struct {
		b    []byte
		want api.Errno
	}{
		// One tag: that it is there, what it is, its length, its data.
		{[]byte{31}, api.ErrShort},
		{[]byte{31, 128}, api.ErrTag},
		{[]byte{31, 127}, api.ErrShort},
		{[]byte{31, 127, 128}, api.ErrLength},
		{[]byte{31, 127, 1}, api.ErrShort},
		{[]byte{0}, api.ErrTag},
		{[]byte{0, 128}, api.ErrTag},
		{[]byte{255}, api.ErrTag},
		{[]byte{255, 128}, api.ErrTag},
		{[]byte{255, 1, 128}, api.ErrTag},
		{[]byte{1, 129}, api.ErrShort},
		{[]byte{1, 129, 127}, api.ErrLength},
		{[]byte{1, 129, 128, 0}, api.ErrShort},
		// Tag by tag: an earlier one's fault ahead of a later one's.
		{[]byte{1, 128, 0, 0}, api.ErrLength},
		{[]byte{0, 0, 1, 128}, api.ErrTag},
		{[]byte{1, 9, 1, 0, 1, 0}, api.ErrShort},
		{[]byte{1, 0, 1, 128}, api.ErrTag},
		{[]byte{1, 0, 2, 128, 1, 0}, api.ErrLength},
		// What is left behind the data is a tag.
		{[]byte{149, 1, 7, 0}, api.ErrTag},
		{[]byte{149, 1, 7, 7}, api.ErrShort},
		{[]byte{149, 1, 7, 149}, api.ErrTag},
	} {
		parses(t, r.b, nil, r.want)
	}
}

// rows hands on all rows of n of the bytes.
func rows(n int, from []byte, tell func([]byte)) {
	b := make([]byte, n)
	var fill func(at int)
	fill = func(at int) {
		if at == n {
			tell(b)
			return
		}
		for _, x := range from {
			b[at] = x
			fill(at + 1)
		}
	}
	fill(0)
}

func TestAllShortRowsOfBytes(t *testing.T) {
	var all []byte
	for x := range 256 {
		all = append(all, byte(x))
	}
	for n := range 3 {
		rows(n, all, func(b []byte) { asked(t, b) })
	}
	edges := []byte{0, 1, 2, 30, 31, 32, 127, 128, 129, 130, 159, 223, 254, 255}
	for n := range 5 {
		rows(n, edges, func(b []byte) { asked(t, b) })
	}
	for n := range 9 {
		rows(n, []byte{0, 1, 2, 31, 129}, func(b []byte) { asked(t, b) })
	}
}

// chance is a list of tags that may be written.
func chance(r *rand.Rand, all []int) []api.Tag {
	var out []api.Tag
	// In equal steps, short enough that none comes twice.
	at, skip := r.Intn(len(all)), 1+r.Intn(40)
	for range r.Intn(21) {
		n := r.Intn(6)
		if r.Intn(6) == 0 {
			n = []int{126, 127, 128, 129, 254, 255}[r.Intn(6)]
		}
		data := make([]byte, n)
		r.Read(data)
		at = (at + skip) % len(all)
		out = append(out, api.Tag{Tag: all[at], Data: data})
	}
	return out
}

func TestWhatIsWrittenIsParsed(t *testing.T) {
	r := rand.New(rand.NewSource(14))
	all := rising()
	for range 3_000 {
		l := chance(r, all)
		both(t, l, bytesOf(l))
	}
}

func TestChanceBytesWithSomeTurned(t *testing.T) {
	r := rand.New(rand.NewSource(15))
	all := rising()
	odd := []byte{0, 1, 31, 127, 128, 129, 130, 159, 255}
	found := map[api.Errno]int{}
	for range 20_000 {
		b := bytesOf(chance(r, all))
		if len(b) == 0 {
			continue
		}
		at := r.Intn(len(b))
		switch r.Intn(5) {
		case 0:
			b[at] = odd[r.Intn(len(odd))]
		case 1:
			b[at] ^= 1 << r.Intn(8)
		case 2:
			b = slices.Delete(b, at, at+1)
		case 3:
			b = slices.Insert(b, at, odd[r.Intn(len(odd))])
		case 4:
			b = slices.Concat(b, bytesOf(chance(r, all)))
		}
		asked(t, b)
		_, e := tlv.Parse(b)
		found[e]++
	}
	for _, e := range []api.Errno{api.OK, api.ErrShort, api.ErrBig, api.ErrTag, api.ErrLength} {
		if found[e] < 50 {
			t.Errorf("error %d came %d times alone", e, found[e])
		}
	}
}

func TestChanceTagsWithSomeTurned(t *testing.T) {
	r := rand.New(rand.NewSource(16))
	all := rising()
	odd := []int{0, -1, 31, 255, 256, 0x1f80, 0xff01, 0x101, 0x19f02, math.MinInt, math.MaxInt}
	found := map[api.Errno]int{}
	for range 10_000 {
		l := chance(r, all)
		for range min(len(l), 1+r.Intn(2)) {
			at := r.Intn(len(l))
			switch r.Intn(5) {
			case 0:
				l[at].Tag = odd[r.Intn(len(odd))]
			case 1:
				l[at].Tag ^= 1 << r.Intn(20)
			case 2:
				l[at].Data = make([]byte, 250+r.Intn(12))
			case 3:
				l[at].Tag = l[r.Intn(len(l))].Tag
			case 4:
				l = append(l, chance(r, all)...)
			}
		}
		want, fault := wrote(l)
		writes(t, l, want, fault)
		found[fault]++
		if fault == api.OK {
			parses(t, want, l, api.OK)
		}
	}
	for _, e := range []api.Errno{api.OK, api.ErrBig, api.ErrTag, api.ErrLength} {
		if found[e] < 50 {
			t.Errorf("error %d came %d times alone", e, found[e])
		}
	}
}

func TestChanceBytes(t *testing.T) {
	r := rand.New(rand.NewSource(17))
	for range 100_000 {
		b := make([]byte, r.Intn(24))
		r.Read(b)
		asked(t, b)
	}
}

func TestParseLeavesWhatItIsGiven(t *testing.T) {
	l := []api.Tag{tagged(0x9f26, 8), tagged(1, 200), tagged(2, 0)}
	whole := bytesOf(l)
	for n := range len(whole) + 1 {
		b := append(bytes.Clone(whole), 7, 7, 7)
		tlv.Parse(b[:n])
		if !bytes.Equal(b, append(bytes.Clone(whole), 7, 7, 7)) {
			t.Fatalf("Parse of %d bytes wrote into what it was given", n)
		}
	}
}

func TestParseTellsNewMemory(t *testing.T) {
	l := []api.Tag{tagged(0x9f26, 8), tagged(1, 200), tagged(2, 0), tagged(3, 1)}
	b := bytesOf(l)
	got, _ := tlv.Parse(b)
	other, _ := tlv.Parse(b)
	// Who writes into what was given changes nothing of what was told.
	for i := range b {
		b[i] ^= 255
	}
	if !same(got, l) {
		t.Fatalf("what was told is what was given: %s", shorts(got))
	}
	// Nor does who writes into one piece, and behind it, change another one.
	before := bytes.Clone(b)
	for i := range got {
		for k := range got[i].Data {
			got[i].Data[k] ^= 255
		}
		room := got[i].Data[:cap(got[i].Data)]
		for k := len(got[i].Data); k < len(room); k++ {
			room[k] = 99
		}
		got[i].Tag = -1
		if !same(got[i+1:], l[i+1:]) {
			t.Errorf("data of tag %d lies within that of another one", i)
		}
	}
	_ = append(got, api.Tag{Tag: 9})
	if !bytes.Equal(b, before) || !same(other, l) {
		t.Errorf("what was told is what was given, or told another time: %s", shorts(other))
	}
}

func TestWriteLeavesWhatItIsGiven(t *testing.T) {
	// Each row of data has room behind it, and so has the list.
	rest := row(100, 3)
	backing := bytes.Clone(rest)
	l := []api.Tag{{Tag: 5, Data: backing[:10]}, {Tag: 6, Data: backing[20:20]}, {Tag: 0x9f02, Data: backing[40:80]}, {Tag: 8, Data: backing[90:91]}}
	for n := range len(l) + 1 {
		if _, e := tlv.Write(l[:n]); e != api.OK {
			t.Fatal(e)
		}
		if !bytes.Equal(backing, rest) {
			t.Fatalf("Write of %d tags wrote into their data, or behind it", n)
		}
		if l[0].Tag != 5 || l[1].Tag != 6 || l[2].Tag != 0x9f02 || l[3].Tag != 8 || len(l[0].Data) != 10 || len(l[1].Data) != 0 || len(l[2].Data) != 40 || len(l[3].Data) != 1 {
			t.Fatalf("Write of %d tags wrote into the list: %s", n, shorts(l))
		}
	}
	// Refused, it leaves them likewise.
	for _, x := range []api.Tag{{Tag: 0}, {Tag: 5}, {Tag: 9, Data: make([]byte, 256)}} {
		_, e := tlv.Write(append(slices.Clone(l), x))
		if e == api.OK || !bytes.Equal(backing, rest) {
			t.Errorf("Write of %d at the end: error %d, or its data was changed", x.Tag, e)
		}
	}
}

func TestWriteTellsNewMemory(t *testing.T) {
	for _, l := range [][]api.Tag{few(1), few(20), {tagged(1, 255)}, {{Tag: 0x9f02, Data: []byte{1, 2}}}} {
		want := bytesOf(l)
		got, _ := tlv.Write(l)
		other, _ := tlv.Write(l)
		for i := range l {
			for k := range l[i].Data {
				l[i].Data[k] ^= 255
			}
		}
		if !bytes.Equal(got, want) {
			t.Fatalf("what was told is what was given: %s", short(got))
		}
		given := bytesOf(l)
		for i := range got[:cap(got)] {
			got[:cap(got)][i] = 99
		}
		if !bytes.Equal(other, want) || !bytes.Equal(bytesOf(l), given) {
			t.Error("who writes into what was told changes what was given, or told another time")
		}
	}
}

func TestDataOfTwoTagsMayBeOne(t *testing.T) {
	data := []byte{1, 2, 3}
	both(t, []api.Tag{{Tag: 1, Data: data}, {Tag: 2, Data: data}, {Tag: 3, Data: data[:2]}}, []byte{1, 3, 1, 2, 3, 2, 3, 1, 2, 3, 3, 2, 1, 2})
}

func TestNoDataAndDataOfNoBytesAreTheSame(t *testing.T) {
	writes(t, []api.Tag{{Tag: 1}}, []byte{1, 0}, api.OK)
	writes(t, []api.Tag{{Tag: 1, Data: []byte{}}}, []byte{1, 0}, api.OK)
	writes(t, []api.Tag{{Tag: 1, Data: row(9, 1)[:0]}}, []byte{1, 0}, api.OK)
}

func TestCallsHangOnTheirArgumentsAlone(t *testing.T) {
	r := rand.New(rand.NewSource(18))
	all := rising()
	var lists [][]api.Tag
	var files [][]byte
	for range 200 {
		l := chance(r, all)
		lists = append(lists, l)
		files = append(files, bytesOf(l))
	}
	ask := func() {
		for i := range lists {
			tlv.Parse([]byte{1, 0, 1, 0})
			tlv.Write([]api.Tag{{Tag: 2}, {Tag: 2}})
			if b, e := tlv.Write(lists[i]); !bytes.Equal(b, files[i]) || e != api.OK {
				t.Errorf("Write%s: %s, error %d", shorts(lists[i]), short(b), e)
			}
			if l, e := tlv.Parse(files[i]); !same(l, lists[i]) || e != api.OK {
				t.Errorf("Parse%s: %s, error %d", short(files[i]), shorts(l), e)
			}
		}
	}
	ask()
	var wait sync.WaitGroup
	for range 8 {
		wait.Go(ask)
	}
	wait.Wait()
}
