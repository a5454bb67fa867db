package bitmap_test

import (
	"bytes"
	"math"
	"slices"
	"testing"

	"comptoir/api"
	"comptoir/bitmap"
)

// bits is n bytes in which the bits of l are set, one by one: bit 1 is the highest of the first byte.
func bits(n int, l ...int) []byte {
	b := make([]byte, n)
	for _, x := range l {
		b[(x-1)/8] |= 128 >> ((x - 1) % 8)
	}
	return b
}

// all are the numbers from low to top that may be there.
func all(low, top int) []int {
	var l []int
	for n := low; n <= top; n++ {
		if n != 65 {
			l = append(l, n)
		}
	}
	return l
}

// written is the map that Write should tell of l.
func written(l []int) []byte {
	if len(l) > 0 && slices.Max(l) > 64 {
		return bits(16, append([]int{1}, l...)...)
	}
	return bits(8, l...)
}

// lists are lists that may be written.
func lists() [][]int {
	out := [][]int{nil, {}, {2, 3}, {2, 64}, {63, 64}, {64, 66}, {66, 67}, {2, 128}, {127, 128}, {2, 8, 9, 64}, {3, 4, 11, 41, 64, 66, 90, 128}, all(2, 63), all(2, 64), all(2, 66), all(66, 128), all(2, 128)}
	for _, n := range all(2, 128) {
		out = append(out, []int{n})
	}
	for start := 2; start <= 12; start++ {
		for step := 1; step <= 23; step += 2 {
			var l []int
			for n := start; n <= 128; n += step {
				if n != 65 {
					l = append(l, n)
				}
			}
			out = append(out, l)
		}
	}
	return out
}

// writes fails unless Write of l tells that.
func writes(t *testing.T, l []int, want []byte, fault api.Errno) {
	t.Helper()
	if got, e := bitmap.Write(l); !bytes.Equal(got, want) || e != fault {
		t.Errorf("Write of %v: %v, error %d; want %v, %d", l, got, e, want, fault)
	}
}

// parses fails unless Parse of b tells that.
func parses(t *testing.T, b []byte, want []int, took int, fault api.Errno) {
	t.Helper()
	if got, n, e := bitmap.Parse(b); !slices.Equal(got, want) || n != took || e != fault {
		t.Errorf("Parse of %v: %v, %d, error %d; want %v, %d, %d", b, got, n, e, want, took, fault)
	}
}

func TestWriteSetsTheBits(t *testing.T) {
	for _, r := range []struct {
		l []int
		b []byte
	}{
		{nil, []byte{0, 0, 0, 0, 0, 0, 0, 0}},
		{[]int{}, []byte{0, 0, 0, 0, 0, 0, 0, 0}},
		{[]int{2}, []byte{64, 0, 0, 0, 0, 0, 0, 0}},
		{[]int{8}, []byte{1, 0, 0, 0, 0, 0, 0, 0}},
		{[]int{9}, []byte{0, 128, 0, 0, 0, 0, 0, 0}},
		{[]int{64}, []byte{0, 0, 0, 0, 0, 0, 0, 1}},
		{[]int{2, 8, 9, 64}, []byte{65, 128, 0, 0, 0, 0, 0, 1}},
		{[]int{66}, []byte{128, 0, 0, 0, 0, 0, 0, 0, 64, 0, 0, 0, 0, 0, 0, 0}},
		{[]int{2, 64, 66}, []byte{192, 0, 0, 0, 0, 0, 0, 1, 64, 0, 0, 0, 0, 0, 0, 0}},
		{[]int{3, 128}, []byte{160, 0, 0, 0, 0, 0, 0, 0, 0, 0, 0, 0, 0, 0, 0, 1}},
		{all(2, 64), []byte{127, 255, 255, 255, 255, 255, 255, 255}},
		{all(2, 128), []byte{255, 255, 255, 255, 255, 255, 255, 255, 127, 255, 255, 255, 255, 255, 255, 255}},
	} {
		writes(t, r.l, r.b, api.OK)
	}
	for _, l := range lists() {
		writes(t, l, written(l), api.OK)
	}
}

func TestWriteTellsSixteenBytesOfWhatIsAbove64Alone(t *testing.T) {
	for _, n := range all(2, 128) {
		want := 8
		if n > 64 {
			want = 16
		}
		b, e := bitmap.Write([]int{n})
		if len(b) != want || e != api.OK {
			t.Fatalf("Write of %d: %d bytes, error %d; want %d", n, len(b), e, want)
		}
		if first := b[0]>>7 == 1; first != (want == 16) {
			t.Errorf("Write of %d: bit 1 is set: %v", n, first)
		}
	}
}

func TestWriteRefusesNumbersThatMayNotBe(t *testing.T) {
	bad := []int{math.MinInt, math.MinInt32, -128, -66, -65, -64, -5, -2, -1, 0, 1, 65, 129, 130, 192, 256, 258, math.MaxInt32, math.MaxInt - 1, math.MaxInt}
	for _, x := range bad {
		writes(t, []int{x}, nil, api.ErrArg)
		// Wherever it stands among others, so that the list rises nonetheless.
		for _, others := range [][]int{{2}, {64}, {66}, {128}, {2, 64}, {64, 66}, {66, 128}, all(2, 128)} {
			l := append([]int{x}, others...)
			slices.Sort(l)
			writes(t, l, nil, api.ErrArg)
		}
	}
}

func TestWriteRefusesWhatDoesNotRise(t *testing.T) {
	for _, n := range all(2, 128) {
		writes(t, []int{n, n}, nil, api.ErrArg)
		writes(t, []int{2, n, n}, nil, api.ErrArg)
		writes(t, []int{n, n, 128}, nil, api.ErrArg)
		for _, lower := range all(2, n-1) {
			writes(t, []int{n, lower}, nil, api.ErrArg)
		}
	}
	for _, l := range [][]int{{5, 4}, {2, 5, 4}, {2, 4, 3, 5}, {66, 64}, {128, 2}, {2, 3, 4, 2}, {2, 3, 4, 5, 5}, {2, 1}, {3, 0}, {3, -1}} {
		writes(t, l, nil, api.ErrArg)
	}
}

func TestWriteRefusesLongLists(t *testing.T) {
	for _, x := range []int{2, 64, 65, 128} {
		writes(t, slices.Repeat([]int{x}, 10_000), nil, api.ErrArg)
	}
	var l []int
	for n := 2; n <= 10_000; n++ {
		l = append(l, n)
	}
	writes(t, l, nil, api.ErrArg)
}

func TestParseTellsWhatIsSet(t *testing.T) {
	for _, r := range []struct {
		b    []byte
		want []int
		took int
	}{
		{[]byte{0, 0, 0, 0, 0, 0, 0, 0}, nil, 8},
		{[]byte{64, 0, 0, 0, 0, 0, 0, 0}, []int{2}, 8},
		{[]byte{1, 128, 0, 0, 0, 0, 0, 0}, []int{8, 9}, 8},
		{[]byte{0, 0, 0, 0, 0, 0, 0, 1}, []int{64}, 8},
		{[]byte{127, 255, 255, 255, 255, 255, 255, 255}, all(2, 64), 8},
		{[]byte{128, 0, 0, 0, 0, 0, 0, 0, 64, 0, 0, 0, 0, 0, 0, 0}, []int{66}, 16},
		{[]byte{128, 0, 0, 0, 0, 0, 0, 0, 0, 0, 0, 0, 0, 0, 0, 1}, []int{128}, 16},
		{[]byte{192, 0, 0, 0, 0, 0, 0, 1, 64, 0, 0, 0, 0, 0, 0, 1}, []int{2, 64, 66, 128}, 16},
		{[]byte{255, 255, 255, 255, 255, 255, 255, 255, 127, 255, 255, 255, 255, 255, 255, 255}, all(2, 128), 16},
	} {
		parses(t, r.b, r.want, r.took, api.OK)
	}
}

func TestParseAsksEachBit(t *testing.T) {
	for _, n := range all(2, 64) {
		parses(t, bits(8, n), []int{n}, 8, api.OK)
		parses(t, bits(16, 1, n, 90), append([]int{n}, 90), 16, api.OK)
	}
	for _, n := range all(66, 128) {
		parses(t, bits(16, 1, n), []int{n}, 16, api.OK)
		parses(t, bits(16, 1, 64, n), []int{64, n}, 16, api.OK)
	}
}

func TestParseOfFewBytes(t *testing.T) {
	full := bytes.Repeat([]byte{255}, 16)
	lower, upper := bits(16, 2, 65, 66), bits(16, 1, 2, 66)
	for n := range 17 {
		if n < 8 {
			parses(t, full[:n], nil, 0, api.ErrShort)
			parses(t, lower[:n], nil, 0, api.ErrShort)
			parses(t, upper[:n], nil, 0, api.ErrShort)
			parses(t, make([]byte, n), nil, 0, api.ErrShort)
			continue
		}
		parses(t, lower[:n], []int{2}, 8, api.OK)
		parses(t, make([]byte, n), nil, 8, api.OK)
		if n < 16 {
			// Too few bytes are named ahead of a bit 65 that is there.
			parses(t, full[:n], nil, 0, api.ErrShort)
			parses(t, upper[:n], nil, 0, api.ErrShort)
			continue
		}
		parses(t, full, nil, 0, api.ErrMap)
		parses(t, upper, []int{2, 66}, 16, api.OK)
	}
	parses(t, nil, nil, 0, api.ErrShort)
	parses(t, []byte{}, nil, 0, api.ErrShort)
}

func TestParseRefusesBit65(t *testing.T) {
	parses(t, bits(16, 1, 65), nil, 0, api.ErrMap)
	parses(t, bits(16, 1, 2, 65), nil, 0, api.ErrMap)
	for _, n := range all(66, 128) {
		parses(t, bits(16, 1, 65, n), nil, 0, api.ErrMap)
		parses(t, bits(16, 1, 2, 64, 65, n), nil, 0, api.ErrMap)
	}
}

func TestParseRefusesASecondHalfOfNone(t *testing.T) {
	parses(t, bits(16, 1), nil, 0, api.ErrMap)
	for _, n := range all(2, 64) {
		parses(t, bits(16, 1, n), nil, 0, api.ErrMap)
	}
	// Bits behind the map are none of it.
	parses(t, append(bits(16, 1, 2), bytes.Repeat([]byte{255}, 16)...), nil, 0, api.ErrMap)
}

func TestParseLeavesWhatIsBehindTheMap(t *testing.T) {
	for _, behind := range []int{1, 7, 8, 9, 16, 100, 5000} {
		for _, x := range []byte{0, 1, 128, 255} {
			rest := bytes.Repeat([]byte{x}, behind)
			parses(t, append(bits(8), rest...), nil, 8, api.OK)
			parses(t, append(bits(8, 2, 64), rest...), []int{2, 64}, 8, api.OK)
			parses(t, append(bits(16, 1, 66, 128), rest...), []int{66, 128}, 16, api.OK)
			parses(t, append(bits(16, 1, 65, 66), rest...), nil, 0, api.ErrMap)
		}
	}
}

func TestWhatIsWrittenIsParsed(t *testing.T) {
	for _, l := range lists() {
		b, e := bitmap.Write(l)
		if e != api.OK {
			t.Fatalf("Write of %v: error %d", l, e)
		}
		parses(t, b, l, len(b), api.OK)
		parses(t, append(b, 255, 7), l, len(b), api.OK)
	}
}

func TestWhatIsParsedIsWritten(t *testing.T) {
	// A walk over many maps, some of them with bits that may not be there.
	v := uint32(1)
	for range 5000 {
		b := make([]byte, 16)
		for i := range b {
			v = v*1664525 + 1013904223
			b[i] = byte(v >> 24)
		}
		second := b[0]>>7 == 1
		l, n, e := bitmap.Parse(b)
		if second && b[8]>>7 == 1 {
			if len(l) != 0 || n != 0 || e != api.ErrMap {
				t.Errorf("Parse of %v: %v, %d, error %d", b, l, n, e)
			}
			continue
		}
		if second != (n == 16) || e != api.OK {
			t.Fatalf("Parse of %v: %v, %d, error %d", b, l, n, e)
		}
		writes(t, l, b[:n], api.OK)
	}
}

func TestWhatIsHandedInStays(t *testing.T) {
	for _, l := range [][]int{{2, 3, 66}, {2, 3, 64}, {2, 3, 3}} {
		room := append(slices.Clone(l), 9, 9, 9)
		first := slices.Clone(room)
		b, _ := bitmap.Write(room[:3])
		if !slices.Equal(room, first) {
			t.Errorf("Write of %v wrote into it: %v", l, room)
		}
		kept := bytes.Clone(b)
		clear(room)
		if !bytes.Equal(b, kept) {
			t.Errorf("what was written hangs on what was handed in: %v; want %v", b, kept)
		}
	}
	for _, whole := range [][]byte{bits(16, 1, 2, 66), bits(16, 2, 66), bits(16, 1, 65), bits(16, 1)} {
		for n := 6; n <= 16; n++ {
			room := bytes.Clone(whole)
			l, _, _ := bitmap.Parse(room[:n])
			if !bytes.Equal(room, whole) {
				t.Errorf("Parse of %v wrote into it: %v", whole[:n], room)
			}
			kept := slices.Clone(l)
			clear(room)
			if !slices.Equal(l, kept) {
				t.Errorf("what was parsed hangs on what was handed in: %v; want %v", l, kept)
			}
		}
	}
}

func TestWhatIsHandedOutIsNewMemory(t *testing.T) {
	for _, l := range [][]int{nil, {2}, {2, 66}} {
		x, _ := bitmap.Write(l)
		want := bytes.Clone(x)
		y, _ := bitmap.Write(l)
		for i := range x {
			x[i] = 99
		}
		_ = append(x, 99, 99, 99)
		z, e := bitmap.Write(l)
		if !bytes.Equal(y, want) || !bytes.Equal(z, want) || e != api.OK {
			t.Errorf("after a map of %v was written into: %v, %v, error %d", l, y, z, e)
		}
	}
	b := bits(16, 1, 2, 66)
	x, _, _ := bitmap.Parse(b)
	y, _, _ := bitmap.Parse(b)
	x[0], x[1] = 99, 99
	_ = append(x, 99, 99, 99)
	if !slices.Equal(y, []int{2, 66}) {
		t.Errorf("after what was parsed was written into: %v", y)
	}
	parses(t, b, []int{2, 66}, 16, api.OK)
}
