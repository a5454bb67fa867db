package crc_test

import (
	"bytes"
	"encoding/binary"
	"hash/crc32"
	"slices"
	"strconv"
	"testing"

	"comptoir/api"
	"comptoir/crc"
)

// row is n bytes of no plain pattern; rows of other seeds differ.
func row(n int, seed uint32) []byte {
	b := make([]byte, n)
	for i := range b {
		seed = seed*1664525 + 1013904223
		b[i] = byte(seed >> 24)
	}
	return b
}

// counting is n bytes, each one above the one ahead of it, round and round.
func counting(n int) []byte {
	b := make([]byte, n)
	for i := range b {
		b[i] = byte(i)
	}
	return b
}

// rows are rows of n bytes.
func rows(n int) [][]byte {
	return [][]byte{make([]byte, n), bytes.Repeat([]byte{255}, n), bytes.Repeat([]byte{1}, n), bytes.Repeat([]byte{128}, n), counting(n), row(n, 1), row(n, 77)}
}

// wanted is the sum over b, as Go's library tells it.
func wanted(b []byte) uint32 {
	return crc32.ChecksumIEEE(b)
}

// sealed is what Seal should tell of b.
func sealed(b []byte) []byte {
	return binary.BigEndian.AppendUint32(bytes.Clone(b), wanted(b))
}

// short names a row of bytes in what a test tells.
func short(b []byte) string {
	if len(b) > 40 {
		return strconv.Itoa(len(b)) + " bytes"
	}
	return strconv.Quote(string(b))
}

// sums fails unless Of b is want.
func sums(t *testing.T, b []byte, want uint32) {
	t.Helper()
	if got := crc.Of(b); got != want {
		t.Errorf("Of %s: %d; want %d", short(b), got, want)
	}
}

// opens fails unless Open of b answers just that; beside an error nothing is told.
func opens(t *testing.T, b, want []byte, fault api.Errno) {
	t.Helper()
	got, e := crc.Open(b)
	if !bytes.Equal(got, want) || e != fault {
		t.Fatalf("Open of %s: %s, error %d; want %s, error %d", short(b), short(got), e, short(want), fault)
	}
}

// turned is b, with the bits of l turned: bit 0 is the lowest of the first byte.
func turned(b []byte, l ...int) []byte {
	out := bytes.Clone(b)
	for _, x := range l {
		out[x/8] ^= 1 << (x % 8)
	}
	return out
}

func TestOfIsTheSumThatTheChapterTells(t *testing.T) {
	for s, want := range map[string]uint32{
		"":                 0,
		"123456789":        3_421_780_262,
		"\x00":             0xd202ef8d,
		"\x00\x00\x00\x00": 0x2144df1c,
		"\xff":             0xff000000,
		"\xff\xff\xff\xff": 0xffffffff,
		"a":                0xe8b7be43,
		"abc":              0x352441c2,
		"message digest":   0x20159d7f,
	} {
		sums(t, []byte(s), want)
	}
	sums(t, nil, 0)
	sums(t, []byte{}, 0)
}

func TestOfOneByte(t *testing.T) {
	seen := map[uint32]int{0: -1}
	for x := range 256 {
		b := []byte{byte(x)}
		sums(t, b, wanted(b))
		if other, there := seen[crc.Of(b)]; there {
			t.Errorf("bytes %d and %d have one sum", x, other)
		}
		seen[crc.Of(b)] = x
	}
}

func TestOfZerosAheadAndBehind(t *testing.T) {
	for _, b := range [][]byte{nil, {1}, {0}, {255}, []byte("123456789"), row(33, 5)} {
		seen := []uint32{crc.Of(b)}
		for n := 1; n <= 50; n++ {
			zeros := make([]byte, n)
			ahead := slices.Concat(zeros, b)
			behind := slices.Concat(b, zeros)
			around := slices.Concat(zeros, b, zeros)
			for _, x := range [][]byte{ahead, behind, around} {
				sums(t, x, wanted(x))
			}
			if slices.Contains(seen, crc.Of(behind)) || crc.Of(ahead) == seen[0] {
				t.Errorf("%d zeros ahead of or behind %s are not seen", n, short(b))
			}
			seen = append(seen, crc.Of(behind))
		}
	}
}

func TestOfRows(t *testing.T) {
	for n := range 300 {
		for _, b := range rows(n) {
			sums(t, b, wanted(b))
		}
	}
	for _, n := range []int{1_023, 1_024, 1_025, api.MaxFrame, 65_535, 65_537, api.Slot, 3*api.Slot + 1} {
		for _, b := range [][]byte{make([]byte, n), counting(n), row(n, 9)} {
			sums(t, b, wanted(b))
		}
	}
}

func TestOfHangsOnItsBytesAlone(t *testing.T) {
	b := []byte("123456789")
	for _, other := range [][]byte{nil, {0}, row(100, 3), b} {
		crc.Of(other)
		crc.Seal(other)
		crc.Open(other)
		sums(t, b, 3_421_780_262)
		sums(t, b[:3], wanted([]byte("123")))
		sums(t, b[3:6:6], wanted([]byte("456")))
	}
}

func TestSealLaysTheSumBehind(t *testing.T) {
	for b, want := range map[string]string{
		"":          "\x00\x00\x00\x00",
		"123456789": "123456789\xcb\xf4\x39\x26",
		"\x00":      "\x00\xd2\x02\xef\x8d",
		"\xff":      "\xff\xff\x00\x00\x00",
		"a":         "a\xe8\xb7\xbe\x43",
	} {
		if got := crc.Seal([]byte(b)); string(got) != want {
			t.Errorf("Seal of %q: %q; want %q", b, got, want)
		}
	}
	if got := crc.Seal(nil); !bytes.Equal(got, make([]byte, 4)) {
		t.Errorf("Seal of nil: %v", got)
	}
	for n := range 100 {
		for _, b := range rows(n) {
			if got := crc.Seal(b); !bytes.Equal(got, sealed(b)) {
				t.Errorf("Seal of %s: %s; want %s", short(b), short(got), short(sealed(b)))
			}
		}
	}
}

func TestWhatIsSealedIsOpened(t *testing.T) {
	for n := range 100 {
		for _, b := range rows(n) {
			opens(t, crc.Seal(b), b, api.OK)
			opens(t, sealed(b), b, api.OK)
			// A seal upon a seal goes off seal by seal.
			opens(t, crc.Seal(crc.Seal(b)), sealed(b), api.OK)
		}
	}
	for _, n := range []int{api.MaxFrame, 65_537, api.Slot} {
		opens(t, crc.Seal(row(n, 4)), row(n, 4), api.OK)
	}
}

func TestOpenOfFewerThanFour(t *testing.T) {
	opens(t, nil, nil, api.ErrShort)
	opens(t, []byte{}, nil, api.ErrShort)
	for x := range 256 {
		opens(t, []byte{byte(x)}, nil, api.ErrShort)
		for y := range 256 {
			opens(t, []byte{byte(x), byte(y)}, nil, api.ErrShort)
			opens(t, []byte{byte(x), byte(y), byte(x ^ y)}, nil, api.ErrShort)
		}
	}
	for n := range 4 {
		for _, b := range rows(n) {
			opens(t, b, nil, api.ErrShort)
		}
		opens(t, crc.Seal([]byte("123456789"))[:n], nil, api.ErrShort)
		// The room behind the end is no part of it.
		opens(t, crc.Seal(nil)[:n:4], nil, api.ErrShort)
	}
}

func TestOpenOfFour(t *testing.T) {
	opens(t, make([]byte, 4), nil, api.OK)
	for i := range 4 {
		for x := 1; x < 256; x++ {
			b := make([]byte, 4)
			b[i] = byte(x)
			opens(t, b, nil, api.ErrSum)
		}
	}
	for _, b := range rows(4)[1:] {
		opens(t, b, nil, api.ErrSum)
	}
}

func TestOpenOfFive(t *testing.T) {
	for x := range 256 {
		own := sealed([]byte{byte(x)})
		opens(t, own, []byte{byte(x)}, api.OK)
		for y := range 256 {
			if y != x {
				opens(t, append([]byte{byte(y)}, own[1:]...), nil, api.ErrSum)
			}
		}
		opens(t, []byte{byte(x), 0, 0, 0, 0}, nil, api.ErrSum)
		opens(t, []byte{0, 0, 0, 0, byte(x)}, nil, api.ErrSum)
	}
}

// orders are all orders of four.
func orders() [][4]int {
	var out [][4]int
	for i := range 256 {
		o := [4]int{i & 3, i >> 2 & 3, i >> 4 & 3, i >> 6}
		if o[0] != o[1] && o[0] != o[2] && o[0] != o[3] && o[1] != o[2] && o[1] != o[3] && o[2] != o[3] {
			out = append(out, o)
		}
	}
	return out
}

func TestOpenAsksTheLastFour(t *testing.T) {
	for _, b := range [][]byte{nil, {7}, []byte("123456789"), row(5, 8), row(60, 2)} {
		sum := wanted(b)
		for _, other := range []uint32{sum + 1, sum - 1, ^sum, sum << 8, sum >> 8, wanted(append(bytes.Clone(b), 0)), wanted(append([]byte{0}, b...)), wanted(sealed(b))} {
			fault, want := api.ErrSum, []byte(nil)
			if other == sum {
				fault, want = api.OK, b
			}
			opens(t, binary.BigEndian.AppendUint32(bytes.Clone(b), other), want, fault)
		}
		for bit := range 32 {
			opens(t, binary.BigEndian.AppendUint32(bytes.Clone(b), sum^1<<bit), nil, api.ErrSum)
		}
	}
}

func TestOpenAsksTheOrderOfTheLastFour(t *testing.T) {
	all := orders()
	if len(all) != 24 {
		t.Fatalf("%d orders", len(all))
	}
	for _, b := range [][]byte{{0}, {'a'}, []byte("123456789"), row(60, 2)} {
		own := sealed(b)[len(b):]
		for _, o := range all {
			last := []byte{own[o[0]], own[o[1]], own[o[2]], own[o[3]]}
			if bytes.Equal(last, own) {
				opens(t, slices.Concat(b, last), b, api.OK)
			} else {
				opens(t, slices.Concat(b, last), nil, api.ErrSum)
			}
		}
		// Ahead of the bytes the sum is none.
		opens(t, slices.Concat(own, b), nil, fewOr(len(own)+len(b)))
	}
}

// fewOr is what Open answers of n bytes without a sum.
func fewOr(n int) api.Errno {
	if n < 4 {
		return api.ErrShort
	}
	return api.ErrSum
}

func TestOpenOfAPieceOfWhatIsSealed(t *testing.T) {
	for _, b := range [][]byte{[]byte("123456789"), row(40, 6), counting(300)} {
		whole := sealed(b)
		for n := range whole {
			opens(t, whole[:n], nil, fewOr(n))
			opens(t, whole[len(whole)-n:], nil, fewOr(n))
		}
		for x := range 256 {
			opens(t, append(bytes.Clone(whole), byte(x)), nil, api.ErrSum)
			opens(t, append([]byte{byte(x)}, whole...), nil, api.ErrSum)
		}
	}
}

func TestOneBitTurnedIsSeen(t *testing.T) {
	for n := range 70 {
		for _, b := range rows(n) {
			whole := crc.Seal(b)
			for x := range 8 * len(whole) {
				opens(t, turned(whole, x), nil, api.ErrSum)
			}
		}
	}
	whole := crc.Seal(row(api.MaxFrame, 3))
	for x := 0; x < 8*len(whole); x += 7 {
		opens(t, turned(whole, x), nil, api.ErrSum)
	}
}

func TestTwoBitsTurnedAreSeen(t *testing.T) {
	for n := range 21 {
		whole := crc.Seal(row(n, 12))
		for x := range 8 * len(whole) {
			for y := range x {
				opens(t, turned(whole, x, y), nil, api.ErrSum)
			}
		}
	}
	whole := crc.Seal(counting(2_000))
	for x := 0; x < 8*len(whole); x += 131 {
		for y := 0; y < x; y += 137 {
			opens(t, turned(whole, x, y), nil, api.ErrSum)
		}
	}
}

// windows calls f with whole, of which some bits of four bytes from at on are turned.
func windows(whole []byte, at int, f func([]byte)) {
	for _, by := range [][]byte{{255, 255, 255, 255}, {1, 0, 0, 1}, {128, 0, 0, 1}, {1, 0, 0, 128}, {0, 255, 255, 0}, {0xed, 0xb8, 0x83, 0x20}, {0x20, 0x83, 0xb8, 0xed}, row(4, 21), row(4, 22), row(4, 23), row(4, 24), row(4, 25)} {
		out := bytes.Clone(whole)
		for i, x := range by {
			out[at+i] ^= x
		}
		f(out)
	}
}

func TestSomeBitsWithinFourBytesAreSeen(t *testing.T) {
	for n := range 41 {
		for _, b := range rows(n) {
			whole := crc.Seal(b)
			for at := range len(whole) - 3 {
				windows(whole, at, func(x []byte) { opens(t, x, nil, api.ErrSum) })
			}
		}
	}
}

func TestOpenLetsWhatHasItsSum(t *testing.T) {
	// Four bytes on both sides of the border, so turned that the sum fits again: no sum can tell.
	for _, b := range [][]byte{{0, 0}, []byte("123456789"), row(50, 30)} {
		whole := crc.Seal(b)
		for i, x := range []byte{0x61, 0xd8, 0xf4, 0xee} {
			whole[len(b)-2+i] ^= x
		}
		opens(t, whole, whole[:len(b)], api.OK)
	}
}

func TestWhatIsHandedInStays(t *testing.T) {
	for n := range 12 {
		room := row(30, 15)
		crc.Of(room[:n])
		crc.Seal(room[:n])
		crc.Open(room[:n])
		if !bytes.Equal(room, row(30, 15)) {
			t.Fatalf("of %d bytes: %v were written into", n, room)
		}
		whole := append(sealed(room[:n]), 1, 2, 3, 4, 5)
		kept := bytes.Clone(whole)
		opens(t, whole[:n+4], room[:n], api.OK)
		if !bytes.Equal(whole, kept) {
			t.Fatalf("Open of %d bytes wrote into them: %v; want %v", n+4, whole, kept)
		}
	}
}

// spoil writes into all of b, and behind its end.
func spoil(b []byte) {
	for i := range b {
		b[i] ^= 255
	}
	_ = append(b, 9, 9, 9, 9)
}

func TestWhatSealHandsOutIsNewMemory(t *testing.T) {
	for n := range 12 {
		b := row(n, 16)
		whole, again := crc.Seal(b), crc.Seal(b)
		spoil(whole)
		if !bytes.Equal(b, row(n, 16)) || !bytes.Equal(again, sealed(b)) {
			t.Errorf("after a seal of %d bytes was written into: %v, %v", n, b, again)
		}
		spoil(b)
		if !bytes.Equal(again, sealed(row(n, 16))) {
			t.Errorf("after %d bytes were written into, their seal: %v", n, again)
		}
	}
}

func TestWhatOpenHandsOutIsNewMemory(t *testing.T) {
	for n := range 12 {
		whole := sealed(row(n, 17))
		out, _ := crc.Open(whole)
		again, e := crc.Open(whole)
		spoil(out)
		if !bytes.Equal(whole, sealed(row(n, 17))) || !bytes.Equal(again, row(n, 17)) || e != api.OK {
			t.Errorf("after what Open told of %d bytes was written into: %v, %v, error %d", n+4, whole, again, e)
		}
		spoil(whole)
		if !bytes.Equal(again, row(n, 17)) {
			t.Errorf("after %d bytes were written into, what Open told of them: %v", n+4, again)
		}
	}
}
