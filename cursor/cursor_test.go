package cursor_test

import (
	"bytes"
	"math"
	"testing"

	"comptoir/api"
	"comptoir/cursor"
)

// row is n bytes, so that those near each other differ.
func row(n int) []byte {
	b := make([]byte, n)
	for i := range b {
		b[i] = byte(i + 1)
	}
	return b
}

// at is a cursor in row(n) of which the first p bytes were read.
func at(t *testing.T, n, p int) *cursor.Cursor {
	t.Helper()
	c := cursor.New(row(n))
	if _, e := c.Take(p); e != api.OK {
		t.Fatalf("Take(%d) of %d bytes: error %d", p, n, e)
	}
	return c
}

// stands fails unless so many bytes were read of so many.
func stands(t *testing.T, c *cursor.Cursor, read, all int) {
	t.Helper()
	if c.At() != read || c.Left() != all-read {
		t.Errorf("At %d, Left %d; want %d, %d", c.At(), c.Left(), read, all-read)
	}
}

// fault is what Take and Text of n answer where so many bytes are left.
func fault(n, left int) api.Errno {
	if n < 0 {
		return api.ErrArg
	}
	if n > left {
		return api.ErrShort
	}
	return api.OK
}

func TestNewIsAtTheBeginning(t *testing.T) {
	for _, b := range [][]byte{nil, {}, {0}, row(80)} {
		stands(t, cursor.New(b), 0, len(b))
	}
}

// taken is Take with what it tells as a text, to be held against what Text tells.
func taken(c *cursor.Cursor, n int) (string, api.Errno) {
	x, e := c.Take(n)
	return string(x), e
}

func TestTakeTellsTheNextBytes(t *testing.T) {
	tellsTheNextBytes(t, taken)
}

func TestTextTellsTheNextBytes(t *testing.T) {
	tellsTheNextBytes(t, (*cursor.Cursor).Text)
}

func tellsTheNextBytes(t *testing.T, read func(*cursor.Cursor, int) (string, api.Errno)) {
	t.Helper()
	const all = 12
	for p := 0; p <= all; p++ {
		for n := -3; n <= all+3; n++ {
			c := at(t, all, p)
			got, e := read(c, n)
			if want := fault(n, all-p); e != want {
				t.Fatalf("%d at %d: error %d; want %d", n, p, e, want)
			}
			if e != api.OK {
				if got != "" {
					t.Errorf("%d at %d: %q beside an error", n, p, got)
				}
				stands(t, c, p, all)
				continue
			}
			if got != string(row(all)[p:p+n]) {
				t.Errorf("%d at %d: %q", n, p, got)
			}
			stands(t, c, p+n, all)
		}
	}
}

func TestTextKeepsBytesThatAreNoLetters(t *testing.T) {
	const s = "\x00\xff\xc3\x28 \xed\xa0\x80\n"
	if got, e := cursor.New([]byte(s)).Text(len(s)); got != s || e != api.OK {
		t.Errorf("Text: %q, error %d", got, e)
	}
}

func TestNumberTellsTheHighestFirst(t *testing.T) {
	for i, r := range []struct {
		b    []byte
		want uint64
	}{
		{[]byte{0}, 0},
		{[]byte{255}, 255},
		{[]byte{1, 2}, 258},
		{[]byte{2, 1}, 513},
		{[]byte{0, 1}, 1},
		{[]byte{1, 0, 0}, 1 << 16},
		{[]byte{128, 0, 0, 0}, 1 << 31},
		{[]byte{255, 255, 255, 255}, math.MaxUint32},
		{[]byte{1, 2, 3, 4, 5}, 0x0102030405},
		{[]byte{1, 2, 3, 4, 5, 6}, 0x010203040506},
		{[]byte{1, 2, 3, 4, 5, 6, 7}, 0x01020304050607},
		{[]byte{1, 2, 3, 4, 5, 6, 7, 8}, 0x0102030405060708},
		{[]byte{127, 255, 255, 255, 255, 255, 255, 255}, math.MaxInt64},
		{[]byte{128, 0, 0, 0, 0, 0, 0, 0}, 1 << 63},
		{[]byte{255, 255, 255, 255, 255, 255, 255, 255}, math.MaxUint64},
	} {
		c := cursor.New(append(bytes.Clone(r.b), 77))
		if got, e := c.Number(len(r.b)); got != r.want || e != api.OK {
			t.Errorf("row %d: %d, error %d; want %d", i, got, e, r.want)
		}
		stands(t, c, len(r.b), len(r.b)+1)
	}
}

func TestNumberRefusesWidthsThenShortness(t *testing.T) {
	const all = 9
	for p := 0; p <= all; p++ {
		for n := -2; n <= all+2; n++ {
			c := at(t, all, p)
			want := fault(n, all-p)
			if n < 1 || n > 8 {
				want = api.ErrArg
			}
			got, e := c.Number(n)
			if e != want {
				t.Fatalf("Number(%d) at %d: error %d; want %d", n, p, e, want)
			}
			if e != api.OK {
				if got != 0 {
					t.Errorf("Number(%d) at %d: %d beside an error", n, p, got)
				}
				stands(t, c, p, all)
				continue
			}
			stands(t, c, p+n, all)
		}
	}
}

func TestGreatestAndLeastCounts(t *testing.T) {
	for _, n := range []int{math.MinInt, math.MinInt32, -1, math.MaxInt32, math.MaxInt - 3, math.MaxInt} {
		c := at(t, 5, 2)
		x, e := c.Take(n)
		s, f := c.Text(n)
		v, g := c.Number(n)
		if want := fault(n, 3); e != want || f != want || g != api.ErrArg {
			t.Errorf("of %d: errors %d, %d, %d", n, e, f, g)
		}
		if len(x) != 0 || s != "" || v != 0 {
			t.Errorf("of %d: %v, %q, %d beside errors", n, x, s, v)
		}
		stands(t, c, 2, 5)
	}
}

func TestReadersGoOnWhereTheOtherEnded(t *testing.T) {
	c := cursor.New([]byte{1, 2, 'a', 'b', 9, 3, 4})
	if x, e := c.Take(1); !bytes.Equal(x, []byte{1}) || e != api.OK {
		t.Errorf("Take: %v, error %d", x, e)
	}
	if _, e := c.Take(7); e != api.ErrShort {
		t.Errorf("Take past the end: error %d", e)
	}
	if v, e := c.Number(1); v != 2 || e != api.OK {
		t.Errorf("Number: %d, error %d", v, e)
	}
	if _, e := c.Number(0); e != api.ErrArg {
		t.Errorf("Number of no bytes: error %d", e)
	}
	if s, e := c.Text(2); s != "ab" || e != api.OK {
		t.Errorf("Text: %q, error %d", s, e)
	}
	if x, e := c.Take(0); len(x) != 0 || e != api.OK {
		t.Errorf("Take of none: %v, error %d", x, e)
	}
	if x, e := c.Take(1); !bytes.Equal(x, []byte{9}) || e != api.OK {
		t.Errorf("Take: %v, error %d", x, e)
	}
	if v, e := c.Number(2); v != 0x0304 || e != api.OK {
		t.Errorf("Number: %d, error %d", v, e)
	}
	stands(t, c, 7, 7)
}

func TestNilCursor(t *testing.T) {
	var c *cursor.Cursor
	for _, n := range []int{math.MinInt, -1, 0, 1, 8, 9, math.MaxInt} {
		x, e := c.Take(n)
		s, f := c.Text(n)
		v, g := c.Number(n)
		if e != api.ErrNil || f != api.ErrNil || g != api.ErrNil {
			t.Errorf("of %d: errors %d, %d, %d; want ErrNil", n, e, f, g)
		}
		if len(x) != 0 || s != "" || v != 0 {
			t.Errorf("of %d: %v, %q, %d beside errors", n, x, s, v)
		}
	}
	stands(t, c, 0, 0)
}

func TestZeroCursorDoesNotPanic(t *testing.T) {
	c := new(cursor.Cursor)
	for _, n := range []int{math.MinInt, -1, 0, 1, 8, 9, math.MaxInt} {
		c.Take(n)
		c.Text(n)
		c.Number(n)
	}
	stands(t, c, 0, 0)
}

func TestWhatIsHandedToNewIsNeitherKeptNorChanged(t *testing.T) {
	room := row(9)
	b := room[:4]
	c := cursor.New(b)
	stands(t, c, 0, 4)
	for i := range room {
		room[i] = 99
	}
	if x, e := c.Take(2); !bytes.Equal(x, []byte{1, 2}) || e != api.OK {
		t.Errorf("Take: %v, error %d", x, e)
	}
	if s, e := c.Text(1); s != "\x03" || e != api.OK {
		t.Errorf("Text: %q, error %d", s, e)
	}
	if v, e := c.Number(1); v != 4 || e != api.OK {
		t.Errorf("Number: %d, error %d", v, e)
	}
	for i, x := range room {
		if x != 99 {
			t.Errorf("byte %d of what was handed in: %d", i, x)
		}
	}
}

func TestWhatTakeHandsOutIsNewMemory(t *testing.T) {
	c := cursor.New(row(6))
	x, _ := c.Take(2)
	y, _ := c.Take(2)
	x[0], x[1] = 91, 92
	x = append(x, 93, 94, 95, 96)
	if !bytes.Equal(y, []byte{3, 4}) {
		t.Errorf("what was taken next: %v", y)
	}
	y = append(y, 97, 98)
	if v, e := c.Number(2); v != 0x0506 || e != api.OK {
		t.Errorf("what is left: %x, error %d", v, e)
	}
	if !bytes.Equal(x, []byte{91, 92, 93, 94, 95, 96}) || !bytes.Equal(y, []byte{3, 4, 97, 98}) {
		t.Errorf("what was taken: %v, %v", x, y)
	}
}

func TestCursorsStandApart(t *testing.T) {
	b := row(4)
	c, d := cursor.New(b), cursor.New(b)
	c.Take(3)
	stands(t, d, 0, 4)
	if v, e := d.Number(4); v != 0x01020304 || e != api.OK {
		t.Errorf("Number: %x, error %d", v, e)
	}
	stands(t, c, 3, 4)
}

func TestPutLaysTheLowestBytesBehind(t *testing.T) {
	const v = 0xf1e2d3c4b5a69788
	whole := []byte{0xf1, 0xe2, 0xd3, 0xc4, 0xb5, 0xa6, 0x97, 0x88}
	for _, b := range [][]byte{nil, {}, {7}, row(20)} {
		for n := -3; n <= 12; n++ {
			width := min(max(n, 0), 8)
			want := append(bytes.Clone(b), whole[8-width:]...)
			if got := cursor.Put(b, v, n); !bytes.Equal(got, want) {
				t.Errorf("Put behind %v, %d: %v; want %v", b, n, got, want)
			}
		}
		for n, width := range map[int]int{math.MinInt: 0, math.MaxInt: 8} {
			want := append(bytes.Clone(b), whole[8-width:]...)
			if got := cursor.Put(b, v, n); !bytes.Equal(got, want) {
				t.Errorf("Put behind %v, %d: %v; want %v", b, n, got, want)
			}
		}
	}
}

func TestPutLeavesWhatIsHandedIn(t *testing.T) {
	for n := -1; n <= 9; n++ {
		room := row(30)
		b := room[:3]
		got := cursor.Put(b, math.MaxUint64, n)
		if !bytes.Equal(room, row(30)) {
			t.Fatalf("Put of %d wrote into what it was handed: %v", n, room)
		}
		want := bytes.Clone(got)
		for i := range room {
			room[i] = 99
		}
		if !bytes.Equal(got, want) {
			t.Fatalf("Put of %d shares what it was handed: %v; want %v", n, got, want)
		}
		for i := range got {
			got[i] = 55
		}
		_ = append(got, 55, 55, 55)
		for i, x := range room {
			if x != 99 {
				t.Fatalf("Put of %d handed out byte %d of what it was handed", n, i)
			}
		}
	}
}

func TestPutsOfOneBeginningStandApart(t *testing.T) {
	b := cursor.Put(nil, 1, 1)
	x := cursor.Put(b, 2, 1)
	y := cursor.Put(b, 3, 1)
	if !bytes.Equal(x, []byte{1, 2}) || !bytes.Equal(y, []byte{1, 3}) || !bytes.Equal(b, []byte{1}) {
		t.Errorf("Put: %v, %v behind %v", x, y, b)
	}
}

func TestWhatIsPutIsRead(t *testing.T) {
	values := []uint64{0, 1, 127, 128, 255, 256, 65_535, 65_536, 0x0102030405060708, math.MaxUint32, 1 << 32, math.MaxInt64, 1 << 63, math.MaxUint64}
	for n := 1; n <= 8; n++ {
		var b []byte
		for _, v := range values {
			b = cursor.Put(b, v, n)
		}
		c := cursor.New(b)
		for i, v := range values {
			want := v << (64 - 8*n) >> (64 - 8*n)
			if got, e := c.Number(n); got != want || e != api.OK {
				t.Errorf("value %d in %d bytes: %d, error %d; want %d", i, n, got, e, want)
			}
		}
		stands(t, c, n*len(values), n*len(values))
	}
}

func TestReadersAnswerTheSameOfTheSame(t *testing.T) {
	first, second := at(t, 7, 1), at(t, 7, 1)
	for n := -1; n <= 4; n++ {
		x, e := first.Take(n)
		y, f := second.Take(n)
		if !bytes.Equal(x, y) || e != f || first.At() != second.At() || first.Left() != second.Left() {
			t.Errorf("Take(%d): %v, %d and %v, %d", n, x, e, y, f)
		}
	}
}
