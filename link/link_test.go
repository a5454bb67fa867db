package link_test

import (
	"bytes"
	"encoding/binary"
	"math/rand"
	"slices"
	"strconv"
	"strings"
	"testing"

	"comptoir/api"
	"comptoir/link"
)

// row is n bytes of no plain pattern; rows of other seeds differ.
func row(n int, seed int64) []byte {
	b := make([]byte, n)
	rand.New(rand.NewSource(seed)).Read(b)
	return b
}

// head is two bytes that say n.
func head(n int) []byte {
	return binary.BigEndian.AppendUint16(nil, uint16(n))
}

// framed is b as it goes over a line.
func framed(b []byte) []byte {
	return append(head(len(b)), b...)
}

// stream is all of l, one behind the other, as they go over a line.
func stream(l ...[]byte) []byte {
	var out []byte
	for _, b := range l {
		out = append(out, framed(b)...)
	}
	return out
}

// same tells whether both have the same frames.
func same(x, y [][]byte) bool {
	return slices.EqualFunc(x, y, bytes.Equal)
}

// short names a row of bytes in what a test tells.
func short(b []byte) string {
	if len(b) > 40 {
		return strconv.Itoa(len(b)) + " bytes"
	}
	return strconv.Quote(string(b))
}

// shorts names some rows of bytes.
func shorts(l [][]byte) string {
	var out []string
	for i, b := range l {
		if i == 8 {
			out = append(out, "and so on: "+strconv.Itoa(len(l)))
			break
		}
		out = append(out, short(b))
	}
	return "[" + strings.Join(out, " ") + "]"
}

// spoil writes into all of b, and behind its end.
func spoil(b []byte) {
	for i := range b {
		b[i] ^= 255
	}
	_ = append(b, 9, 9, 9, 9)
}

// tells fails unless Feed of b answers just that.
func tells(t *testing.T, l *link.Link, b []byte, want [][]byte, fault api.Errno) {
	t.Helper()
	got, e := l.Feed(b)
	if !same(got, want) || e != fault {
		t.Fatalf("Feed of %s: %s, error %d; want %s, error %d", short(b), shorts(got), e, shorts(want), fault)
	}
}

// frames fails unless Frame of b answers just that.
func frames(t *testing.T, b, want []byte, fault api.Errno) {
	t.Helper()
	if got, e := link.Frame(b); !bytes.Equal(got, want) || e != fault {
		t.Fatalf("Frame of %s: %s, error %d; want %s, error %d", short(b), short(got), e, short(want), fault)
	}
}

func TestFrameLaysTheLengthAhead(t *testing.T) {
	for _, r := range []struct{ b, want []byte }{
		{[]byte{7}, []byte{0, 1, 7}},
		{[]byte{0}, []byte{0, 1, 0}},
		{[]byte{255}, []byte{0, 1, 255}},
		{[]byte{9, 8}, []byte{0, 2, 9, 8}},
		{[]byte{0, 0}, []byte{0, 2, 0, 0}},
		{row(255, 1), append([]byte{0, 255}, row(255, 1)...)},
		{row(256, 1), append([]byte{1, 0}, row(256, 1)...)},
		{row(257, 1), append([]byte{1, 1}, row(257, 1)...)},
		{row(4_095, 1), append([]byte{15, 255}, row(4_095, 1)...)},
		{row(4_096, 1), append([]byte{16, 0}, row(4_096, 1)...)},
	} {
		frames(t, r.b, r.want, api.OK)
	}
}

func TestFrameOfEachLength(t *testing.T) {
	for n := 1; n <= api.MaxFrame; n++ {
		b := row(n, int64(n))
		frames(t, b, framed(b), api.OK)
	}
}

func TestFrameOfNoByteAndOfTooMany(t *testing.T) {
	frames(t, nil, nil, api.ErrArg)
	frames(t, []byte{}, nil, api.ErrArg)
	frames(t, row(9, 1)[:0], nil, api.ErrArg)
	// Lengths that two bytes cannot say, or say as another one, are among them.
	for _, n := range []int{4_097, 4_098, 8_192, 65_535, 65_536, 65_537, 65_536 + 4_096, 131_072, 200_001} {
		frames(t, row(n, 3), nil, api.ErrBig)
	}
}

func TestFeedOfTheChaptersExample(t *testing.T) {
	tells(t, link.New(), []byte{0, 1, 7}, [][]byte{{7}}, api.OK)
}

func TestFeedOfNoBytes(t *testing.T) {
	l := link.New()
	for range 3 {
		tells(t, l, nil, nil, api.OK)
		tells(t, l, []byte{}, nil, api.OK)
	}
	// It turns nothing of what waits, wherever it comes.
	for _, x := range []byte{0, 3, 1, 2} {
		tells(t, l, []byte{x}, nil, api.OK)
		tells(t, l, nil, nil, api.OK)
		tells(t, l, []byte{}, nil, api.OK)
	}
	tells(t, l, []byte{9}, [][]byte{{1, 2, 9}}, api.OK)
	// What was told is not told again.
	tells(t, l, nil, nil, api.OK)
	tells(t, l, []byte{0, 1, 5}, [][]byte{{5}}, api.OK)
}

func TestFeedOfOneByteAtATime(t *testing.T) {
	for _, n := range []int{1, 2, 3, 254, 255, 256, 257, 258, 4_095, 4_096} {
		l := link.New()
		for seed := range int64(2) {
			b := row(n, seed)
			whole := framed(b)
			for _, x := range whole[:n+1] {
				tells(t, l, []byte{x}, nil, api.OK)
			}
			tells(t, l, whole[n+1:], [][]byte{b}, api.OK)
		}
	}
}

func TestFeedOfManyFramesAtOnce(t *testing.T) {
	var all [][]byte
	for n := 1; n <= 300; n++ {
		all = append(all, row(n, int64(n)))
	}
	all = append(all, row(api.MaxFrame, 1), []byte{0}, row(api.MaxFrame, 2), []byte{255})
	l := link.New()
	for range 3 {
		tells(t, l, stream(all...), all, api.OK)
		tells(t, l, nil, nil, api.OK)
	}
	// The same bytes twice are two frames.
	tells(t, l, []byte{0, 1, 7, 0, 1, 7, 0, 1, 7}, [][]byte{{7}, {7}, {7}}, api.OK)
	ones := slices.Repeat([][]byte{{1}}, 20_000)
	tells(t, l, stream(ones...), ones, api.OK)
}

func TestFeedOfAFrameAndAPartOfTheNext(t *testing.T) {
	first, second := []byte{1, 2, 3}, row(300, 4)
	whole := stream(first, second)
	for n := len(framed(first)); n < len(whole); n++ {
		l := link.New()
		tells(t, l, whole[:n], [][]byte{first}, api.OK)
		tells(t, l, whole[n:], [][]byte{second}, api.OK)
		// And where the rest of it comes with a part of a third.
		l = link.New()
		tells(t, l, whole[:n], [][]byte{first}, api.OK)
		tells(t, l, append(bytes.Clone(whole[n:]), 0, 2, 8), [][]byte{second}, api.OK)
		tells(t, l, []byte{9}, [][]byte{{8, 9}}, api.OK)
	}
}

func TestFramesMayHaveAnyBytes(t *testing.T) {
	// What would be a length that may not be is none within a frame.
	for _, b := range [][]byte{{0}, {0, 0}, {255, 255}, {0, 0, 0, 0}, {16, 1}, {0, 1, 7}, make([]byte, api.MaxFrame), bytes.Repeat([]byte{255}, api.MaxFrame), framed(row(4_094, 5))} {
		l := link.New()
		tells(t, l, stream(b, b), [][]byte{b, b}, api.OK)
		for _, x := range framed(b)[:len(b)+1] {
			tells(t, l, []byte{x}, nil, api.OK)
		}
		tells(t, l, b[len(b)-1:], [][]byte{b}, api.OK)
	}
	for x := range 256 {
		tells(t, link.New(), []byte{0, 1, byte(x)}, [][]byte{{byte(x)}}, api.OK)
	}
}

func TestFeedOfEachLength(t *testing.T) {
	for n := range 1 << 16 {
		fault := api.OK
		if n == 0 || n > 4_096 {
			fault = api.ErrBig
		}
		tells(t, link.New(), head(n), nil, fault)
		// Of its first byte alone nothing is known.
		l := link.New()
		tells(t, l, head(n)[:1], nil, api.OK)
		tells(t, l, head(n)[1:], nil, fault)
	}
}

func TestFeedTakesAsManyAsTheLengthSays(t *testing.T) {
	l := link.New()
	for n := 1; n <= api.MaxFrame; n++ {
		b := row(n, int64(n))
		whole := framed(b)
		tells(t, l, whole[:n+1], nil, api.OK)
		tells(t, l, whole[n+1:], [][]byte{b}, api.OK)
	}
}

// wrong are lengths that may not be.
func wrong() []int {
	return []int{0, 4_097, 4_098, 4_351, 4_352, 8_192, 32_768, 65_280, 65_535}
}

func TestWrongLengthBehindWholeFrames(t *testing.T) {
	first, second := []byte{5}, row(300, 6)
	ahead := stream(first, second)
	for _, n := range wrong() {
		for _, behind := range [][]byte{nil, {7}, {0, 1, 7}, row(200, 7)} {
			// Together with it, none of them is told.
			tells(t, link.New(), slices.Concat(ahead, head(n), behind), nil, api.ErrBig)
			// Those that were told ahead of it stay so.
			l := link.New()
			tells(t, l, ahead, [][]byte{first, second}, api.OK)
			tells(t, l, append(head(n), behind...), nil, api.ErrBig)
			// What began ahead of it, and would be whole with it, isn't told either.
			l = link.New()
			tells(t, l, ahead[:5], [][]byte{first}, api.OK)
			tells(t, l, slices.Concat(ahead[5:], head(n), behind), nil, api.ErrBig)
			// A half of it, behind them, turns nothing yet.
			l = link.New()
			tells(t, l, append(bytes.Clone(ahead), head(n)[0]), [][]byte{first, second}, api.OK)
			tells(t, l, append(head(n)[1:], behind...), nil, api.ErrBig)
		}
	}
}

func TestWrongLengthIsToldNowAndEver(t *testing.T) {
	for _, n := range wrong() {
		l := link.New()
		tells(t, l, []byte{0, 1, 3, 0}, [][]byte{{3}}, api.OK)
		tells(t, l, slices.Concat([]byte{1, 4}, head(n)), nil, api.ErrBig)
		for range 3 {
			for _, b := range [][]byte{nil, {}, {0}, {1}, {0, 1, 7}, {7}, {0, 0}, {255, 255}, stream(row(20, 1), row(4_096, 1)), row(5_000, 2)} {
				tells(t, l, b, nil, api.ErrBig)
			}
		}
		// Frames that come byte by byte are not told either.
		for _, x := range stream([]byte{7}, []byte{8, 9}) {
			tells(t, l, []byte{x}, nil, api.ErrBig)
		}
	}
}

func TestAFrameThatIsNotWholeIsNoFault(t *testing.T) {
	l := link.New()
	tells(t, l, []byte{16, 0}, nil, api.OK)
	for i := range 4_095 {
		tells(t, l, []byte{byte(i)}, nil, api.OK)
	}
	tells(t, l, nil, nil, api.OK)
	// The first length that may not be is the one behind it.
	tells(t, l, []byte{1, 0}, [][]byte{lastIs(4_096, 1)}, api.OK)
	tells(t, l, []byte{0}, nil, api.ErrBig)
}

// lastIs is n bytes, of which each but the last tells how many are ahead of it.
func lastIs(n int, last byte) []byte {
	b := make([]byte, n)
	for i := range b {
		b[i] = byte(i)
	}
	b[n-1] = last
	return b
}

// ends are the frames of a stream, where each of them ends in it, and where the second byte of a length that may not be ends (0: there is none).
func ends(b []byte) (l [][]byte, at []int, bad int) {
	p := 0
	for p+2 <= len(b) {
		n := int(b[p])*256 + int(b[p+1])
		if n == 0 || n > 4_096 {
			return l, at, p + 2
		}
		if p+2+n > len(b) {
			break
		}
		l = append(l, b[p+2:p+2+n])
		p += 2 + n
		at = append(at, p)
	}
	return l, at, 0
}

// inParts feeds a link with a stream that is cut there, and fails unless each part tells just the frames that end in it, and none from the part on where a length that may not be ends.
func inParts(t *testing.T, b []byte, cuts []int) {
	t.Helper()
	l, at, bad := ends(b)
	line := link.New()
	from := 0
	for _, to := range append(slices.Clone(cuts), len(b)) {
		var want [][]byte
		fault := api.OK
		if bad > 0 && to >= bad {
			fault = api.ErrBig
		} else {
			for i, end := range at {
				if end > from && end <= to {
					want = append(want, l[i])
				}
			}
		}
		tells(t, line, b[from:to], want, fault)
		from = to
	}
}

func TestEachWayToCutAStream(t *testing.T) {
	for _, b := range [][]byte{
		{0, 1, 7, 0, 2, 8, 9, 0, 3, 1, 2, 3},
		{0, 2, 0, 0, 0, 1, 0, 0, 4, 0, 0, 0, 0},
		{0, 1, 7, 0, 2, 8, 9, 0, 3, 1, 2},
		{0, 1, 7, 0, 0, 0, 1, 5, 0, 1, 6},
		{0, 1, 7, 0, 2, 8, 9, 16, 1, 0, 1, 5},
		{255, 255, 0, 1, 7, 0, 1, 8},
		{0, 0},
		{0},
		nil,
	} {
		for set := range 1 << max(len(b)-1, 0) {
			var cuts []int
			for p := 1; p < len(b); p++ {
				if set>>(p-1)&1 == 1 {
					cuts = append(cuts, p)
				}
			}
			inParts(t, b, cuts)
		}
	}
}

func TestLongStreamsInManyParts(t *testing.T) {
	r := rand.New(rand.NewSource(1))
	for round := range 300 {
		var b []byte
		for range r.Intn(12) {
			n := []int{1, 2, 1 + r.Intn(20), 255, 256, 257, 1 + r.Intn(4_096), 4_096}[r.Intn(8)]
			b = append(b, framed(row(n, r.Int63()))...)
		}
		switch round % 3 {
		case 1:
			b = append(b, head(wrong()[r.Intn(9)])...)
			b = append(b, row(r.Intn(5_000), r.Int63())...)
		case 2:
			b = b[:len(b)-r.Intn(min(len(b), 300)+1)]
		}
		var cuts []int
		for range r.Intn(30) {
			cuts = append(cuts, r.Intn(len(b)+1))
		}
		slices.Sort(cuts)
		inParts(t, b, cuts)
	}
}

func TestStreamsOfAnyBytes(t *testing.T) {
	r := rand.New(rand.NewSource(2))
	for range 3_000 {
		// Small bytes and noughts, so that lengths are met that may be, and that may not.
		b := make([]byte, r.Intn(60))
		for i := range b {
			b[i] = []byte{0, 0, 0, byte(r.Intn(4)), byte(r.Intn(256))}[r.Intn(5)]
		}
		inParts(t, b, nil)
		var each []int
		for p := 1; p < len(b); p++ {
			each = append(each, p)
		}
		inParts(t, b, each)
	}
}

func TestWhatIsFramedIsFed(t *testing.T) {
	l := link.New()
	for n := 1; n <= api.MaxFrame; n += 13 {
		b := row(n, int64(n))
		f, e := link.Frame(b)
		if e != api.OK {
			t.Fatalf("Frame of %d bytes: error %d", n, e)
		}
		tells(t, l, f, [][]byte{b}, api.OK)
		// A frame within a frame comes off one by one.
		if g, e := link.Frame(f); e == api.OK {
			tells(t, l, g, [][]byte{f}, api.OK)
		} else if len(f) <= api.MaxFrame {
			t.Fatalf("Frame of %d bytes: error %d", len(f), e)
		}
	}
}

func TestNilLink(t *testing.T) {
	var none *link.Link
	for _, b := range [][]byte{nil, {}, {0}, {0, 1, 7}, {0, 0}, {255, 255}, row(5_000, 1)} {
		tells(t, none, b, nil, api.ErrNil)
	}
	// After a length that may not be, too.
	tells(t, none, []byte{0, 1, 7}, nil, api.ErrNil)
}

func TestZeroLinkIsANewOne(t *testing.T) {
	l := new(link.Link)
	tells(t, l, []byte{0, 1, 7, 0}, [][]byte{{7}}, api.OK)
	tells(t, l, []byte{1, 8}, [][]byte{{8}}, api.OK)
	tells(t, l, []byte{0, 0}, nil, api.ErrBig)
	tells(t, l, []byte{0, 1, 7}, nil, api.ErrBig)
}

func TestLinksStandApart(t *testing.T) {
	x, y := link.New(), link.New()
	if x == nil || y == nil || x == y {
		t.Fatal("New told no two links")
	}
	tells(t, x, []byte{0, 3, 1}, nil, api.OK)
	tells(t, y, []byte{0, 1, 7, 0}, [][]byte{{7}}, api.OK)
	tells(t, x, []byte{2, 3, 0, 2}, [][]byte{{1, 2, 3}}, api.OK)
	tells(t, y, []byte{0}, nil, api.ErrBig)
	tells(t, x, []byte{8, 9}, [][]byte{{8, 9}}, api.OK)
	tells(t, y, []byte{0, 1, 7}, nil, api.ErrBig)
	// One made thereafter begins anew.
	z := link.New()
	tells(t, z, []byte{0, 1, 7}, [][]byte{{7}}, api.OK)
	tells(t, x, []byte{255, 255}, nil, api.ErrBig)
	tells(t, z, []byte{0, 1, 8}, [][]byte{{8}}, api.OK)
}

func TestTheSameFeedsAreAnsweredAlike(t *testing.T) {
	whole := append(stream(row(9, 1), row(300, 2), row(4_096, 3)), 0, 5, 1)
	for _, step := range []int{1, 2, 3, 7, 100, 4_097, len(whole)} {
		x, y := link.New(), link.New()
		for p := 0; p < len(whole); p += step {
			part := whole[p:min(p+step, len(whole))]
			got, e := x.Feed(part)
			tells(t, y, part, got, e)
		}
	}
}

func TestWhatIsHandedToFrameStays(t *testing.T) {
	for _, n := range []int{0, 1, 2, 9, 255, 256, 4_096, 4_097} {
		room := row(n+20, 8)
		got, e := link.Frame(room[:n])
		if !bytes.Equal(room, row(n+20, 8)) {
			t.Fatalf("Frame of %d bytes wrote into them, or behind them", n)
		}
		if e != api.OK {
			continue
		}
		spoil(room)
		if !bytes.Equal(got, framed(row(n+20, 8)[:n])) {
			t.Fatalf("Frame of %d bytes hangs on them", n)
		}
		room = row(n+20, 8)
		spoil(got)
		if !bytes.Equal(room, row(n+20, 8)) {
			t.Fatalf("Frame of %d bytes handed them out", n)
		}
		frames(t, room[:n], framed(room[:n]), api.OK)
	}
}

func TestWhatIsHandedToFeedStays(t *testing.T) {
	whole := stream([]byte{1, 2, 3}, row(300, 9), []byte{4})
	for n := range len(whole) + 1 {
		first := append(bytes.Clone(whole[:n]), 77, 78, 79)
		second := append(bytes.Clone(whole[n:]), 77, 78, 79)
		l := link.New()
		x, e := l.Feed(first[:n])
		y, f := l.Feed(second[:len(whole)-n])
		if !bytes.Equal(first, append(bytes.Clone(whole[:n]), 77, 78, 79)) || !bytes.Equal(second, append(bytes.Clone(whole[n:]), 77, 78, 79)) {
			t.Fatalf("Feed of %d bytes wrote into them, or behind them", n)
		}
		spoil(first)
		spoil(second)
		if got := append(x, y...); !same(got, [][]byte{{1, 2, 3}, row(300, 9), {4}}) || e != api.OK || f != api.OK {
			t.Fatalf("what was told hangs on what was fed, of %d bytes: %s, errors %d, %d", n, shorts(got), e, f)
		}
	}
}

func TestWhatWaitsHangsOnNothingThatWasFed(t *testing.T) {
	whole := stream(row(300, 10))
	for n := range whole {
		l := link.New()
		b := append([]byte{0, 1, 7}, whole[:n]...)
		tells(t, l, b, [][]byte{{7}}, api.OK)
		spoil(b)
		tells(t, l, whole[n:], [][]byte{row(300, 10)}, api.OK)
	}
	// One buffer, used again and again.
	l := link.New()
	room := make([]byte, 1, 16)
	for _, x := range whole[:len(whole)-1] {
		room[0] = x
		tells(t, l, room, nil, api.OK)
	}
	room[0] = whole[len(whole)-1]
	tells(t, l, room, [][]byte{row(300, 10)}, api.OK)
}

func TestWhatFeedHandsOutIsNewMemory(t *testing.T) {
	first, second, third := []byte{1, 2, 3}, row(40, 11), row(50, 12)
	fed := append(stream(first, second), framed(third)[:20]...)
	for _, spoilt := range [][]int{{0}, {1}, {0, 1}} {
		l := link.New()
		b := bytes.Clone(fed)
		got, e := l.Feed(b)
		if !same(got, [][]byte{first, second}) || e != api.OK {
			t.Fatalf("Feed: %s, error %d", shorts(got), e)
		}
		for _, i := range spoilt {
			spoil(got[i])
		}
		// The other frame, what was fed, and what waits, stay.
		for i, want := range [][]byte{first, second} {
			if !slices.Contains(spoilt, i) && !bytes.Equal(got[i], want) {
				t.Errorf("after %v were written into, %d: %s", spoilt, i, short(got[i]))
			}
		}
		if !bytes.Equal(b, fed) {
			t.Errorf("after %v were written into, what was fed: %s", spoilt, short(b))
		}
		got[0], got[1] = nil, nil
		_ = append(got, nil, nil)
		tells(t, l, framed(third)[20:], [][]byte{third}, api.OK)
	}
}

func TestFramesOfALaterFeedLeaveTheEarlier(t *testing.T) {
	l := link.New()
	var all, want [][]byte
	for i := range 50 {
		b := row(1+i*7, int64(i))
		whole := framed(b)
		half := len(whole) / 2
		tells(t, l, whole[:half], nil, api.OK)
		got, e := l.Feed(whole[half:])
		if len(got) != 1 || e != api.OK {
			t.Fatalf("frame %d: %s, error %d", i, shorts(got), e)
		}
		all, want = append(all, got...), append(want, b)
	}
	if !same(all, want) {
		t.Errorf("what was told has changed: %s", shorts(all))
	}
	tells(t, l, []byte{0, 0}, nil, api.ErrBig)
	if !same(all, want) {
		t.Errorf("what was told has changed with a length that may not be: %s", shorts(all))
	}
}
