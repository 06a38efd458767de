package octet_test

import (
	"bytes"
	"math"
	"testing"

	"taximeter/api"
	"taximeter/octet"
)

var widths = []int{1, 2, 4, 8}

// noWidths lie beside, between and far off the four, and where a product by 8 goes round.
var noWidths = []int{0, 3, 5, 6, 7, 9, 16, 32, 64, 256, 257, -1, -2, -4, -8, math.MaxInt, math.MinInt, math.MinInt + 8, 1 << 61, 1<<61 + 1}

// greatest is said apart from the program, as a list.
var greatest = map[int]uint64{1: 0xff, 2: 0xffff, 4: 0xffffffff, 8: 0xffffffffffffffff}

// roomy is bytes of a longer array, whose room behind the end must stay as it is.
func roomy(b ...byte) (list, room []byte) {
	all := append(append([]byte{}, b...), bytes.Repeat([]byte{0xee}, 16)...)
	return all[:len(b)], all[len(b):]
}

// P1.1

func TestFits(t *testing.T) {
	for _, w := range widths {
		top := greatest[w]
		for _, n := range []uint64{0, 1, 127, 128, 255, top / 2, top - 1, top} {
			if !octet.Fits(w, n) {
				t.Errorf("%d of width %d does not fit", n, w)
			}
		}
		if top < math.MaxUint64 {
			for _, n := range []uint64{top + 1, top + 2, top*2 + 1, 1 << 63, math.MaxUint64} {
				if octet.Fits(w, n) {
					t.Errorf("%d of width %d fits", n, w)
				}
			}
		}
	}
}

func TestFitsNoWidth(t *testing.T) {
	for _, w := range noWidths {
		for _, n := range []uint64{0, 1, 255, 1 << 32, math.MaxUint64} {
			if octet.Fits(w, n) {
				t.Errorf("%d fits width %d, which there is not", n, w)
			}
		}
	}
}

func TestPut(t *testing.T) {
	for _, c := range []struct {
		b     []byte
		width int
		n     uint64
		want  []byte
	}{
		{nil, 1, 0, []byte{0}},
		{nil, 1, 7, []byte{7}},
		{nil, 1, 255, []byte{255}},
		{nil, 2, 258, []byte{2, 1}},
		{nil, 2, 0xffff, []byte{255, 255}},
		{nil, 4, 0x01020304, []byte{4, 3, 2, 1}},
		{nil, 4, 5, []byte{5, 0, 0, 0}},
		{nil, 8, 0x0102030405060708, []byte{8, 7, 6, 5, 4, 3, 2, 1}},
		{nil, 8, math.MaxUint64, bytes.Repeat([]byte{255}, 8)},
		{[]byte{}, 1, 7, []byte{7}},
		{[]byte{9, 8}, 2, 258, []byte{9, 8, 2, 1}},
	} {
		if got := octet.Put(c.b, c.width, c.n); !bytes.Equal(got, c.want) {
			t.Errorf("Put(%v, %d, %d): %v, not %v", c.b, c.width, c.n, got, c.want)
		}
	}
}

func TestPutWhatDoesNotFit(t *testing.T) {
	for _, c := range []struct {
		width int
		n     uint64
		want  []byte
	}{
		{1, 256, []byte{9, 0}},
		{1, 0x0102, []byte{9, 2}},
		{2, 0x010203, []byte{9, 3, 2}},
		{4, 0x0102030405, []byte{9, 5, 4, 3, 2}},
		{4, 1 << 63, []byte{9, 0, 0, 0, 0}},
	} {
		if got := octet.Put([]byte{9}, c.width, c.n); !bytes.Equal(got, c.want) {
			t.Errorf("Put(9, %d, %d): %v, not %v", c.width, c.n, got, c.want)
		}
	}
}

func TestPutNoWidth(t *testing.T) {
	for _, w := range noWidths {
		b := []byte{1, 2, 3}
		got := octet.Put(b, w, math.MaxUint64)
		if !bytes.Equal(got, []byte{1, 2, 3}) {
			t.Errorf("width %d: %v", w, got)
			continue
		}
		got[0] = 9
		if b[0] != 1 {
			t.Errorf("width %d: b itself is answered", w)
		}
		if len(octet.Put(nil, w, 1)) != 0 {
			t.Errorf("width %d behind nothing is something", w)
		}
	}
}

func TestPutAnswersNewMemory(t *testing.T) {
	for _, w := range widths {
		b, room := roomy(1, 2)
		one, other := octet.Put(b, w, 5), octet.Put(b, w, 6)
		if one[2] != 5 || other[2] != 6 {
			t.Errorf("width %d: two answers share memory: %v, %v", w, one, other)
		}
		one[0] = 9
		if b[0] != 1 || other[0] != 1 {
			t.Errorf("width %d: an answer shares memory with b", w)
		}
		b[1] = 8
		if other[1] != 2 {
			t.Errorf("width %d: b is kept", w)
		}
		if !bytes.Equal(room, bytes.Repeat([]byte{0xee}, 16)) {
			t.Errorf("width %d: the room behind b is changed: %v", w, room)
		}
	}
}

// P1.2

func TestNumber(t *testing.T) {
	c := octet.NewCursor([]byte{7, 2, 1, 4, 3, 2, 1, 8, 7, 6, 5, 4, 3, 2, 1})
	for _, x := range []struct {
		width int
		want  uint64
		left  int
	}{{1, 7, 14}, {2, 258, 12}, {4, 0x01020304, 8}, {8, 0x0102030405060708, 0}} {
		if got := c.Number(x.width); got != x.want || c.Left() != x.left || c.Err() != api.OK {
			t.Errorf("width %d: %x, %d left, error %d", x.width, got, c.Left(), c.Err())
		}
	}
	if c.Done() != api.OK {
		t.Error("not done:", c.Done())
	}
}

func TestNumberNoWidth(t *testing.T) {
	for _, w := range noWidths {
		for _, b := range [][]byte{nil, {1}, {1, 2, 3, 4, 5, 6, 7, 8, 9}} {
			c := octet.NewCursor(b)
			if n := c.Number(w); n != 0 || c.Left() != len(b) || c.Err() != api.OK {
				t.Errorf("width %d: %d, %d of %d left, error %d", w, n, c.Left(), len(b), c.Err())
			}
		}
	}
}

func TestNumberOfTooFewBytes(t *testing.T) {
	for _, w := range widths {
		for have := range w {
			c := octet.NewCursor(bytes.Repeat([]byte{1}, have))
			if n := c.Number(w); n != 0 || c.Err() != api.ErrShort || c.Done() != api.ErrShort {
				t.Errorf("width %d of %d bytes: %d, %d, %d", w, have, n, c.Err(), c.Done())
			}
		}
	}
}

func TestBytes(t *testing.T) {
	c := octet.NewCursor([]byte{1, 2, 3, 4, 5})
	if b := c.Bytes(2); !bytes.Equal(b, []byte{1, 2}) || c.Left() != 3 {
		t.Error(b, c.Left())
	}
	if b := c.Bytes(0); len(b) != 0 || c.Left() != 3 {
		t.Error(b, c.Left())
	}
	for _, n := range []int{-1, -3, math.MinInt} {
		if b := c.Bytes(n); len(b) != 0 || c.Left() != 3 || c.Err() != api.OK {
			t.Error(n, b, c.Left(), c.Err())
		}
	}
	if b := c.Bytes(3); !bytes.Equal(b, []byte{3, 4, 5}) || c.Left() != 0 || c.Done() != api.OK {
		t.Error(b, c.Left(), c.Done())
	}
	if b := c.Bytes(0); len(b) != 0 || c.Done() != api.OK {
		t.Error("no bytes of none:", b, c.Done())
	}
}

func TestBytesOfTooFew(t *testing.T) {
	for _, n := range []int{4, 5, 1 << 40, math.MaxInt} {
		c := octet.NewCursor([]byte{1, 2, 3})
		if b := c.Bytes(n); len(b) != 0 || c.Err() != api.ErrShort {
			t.Error(n, b, c.Err())
		}
	}
}

func TestText(t *testing.T) {
	c := octet.NewCursor([]byte{2, 'a', 'b', 3, 0, 'c', 0xff, 0, 1, 0, 0, 0, 'd', 0, 1, 0, 0, 0, 0, 0, 0, 0, 'e', 9})
	for _, x := range []struct {
		width, most int
		want        string
	}{{1, 2, "ab"}, {2, 3, "c\xff\x00"}, {4, math.MaxInt, "d"}, {1, 0, ""}, {8, 16, "e"}} {
		if got := c.Text(x.width, x.most); got != x.want || c.Err() != api.OK {
			t.Errorf("width %d, most %d: %q, error %d", x.width, x.most, got, c.Err())
		}
	}
	if c.Left() != 1 || c.Done() != api.ErrForm {
		t.Error(c.Left(), c.Done())
	}
}

func TestTextThatIsTooLong(t *testing.T) {
	for _, x := range []struct {
		b           []byte
		width, most int
	}{
		{[]byte{3, 'a', 'b', 'c'}, 1, 2},
		{[]byte{1, 'a'}, 1, 0},
		{[]byte{0}, 1, -1},
		{[]byte{1, 'a'}, 1, math.MinInt},
		{[]byte{17, 'a'}, 1, 16},
		{[]byte{0, 1, 'a'}, 2, 255},
		{[]byte{255, 255, 255, 255, 255, 255, 255, 255}, 8, math.MaxInt},
		{[]byte{0, 0, 0, 0, 0, 0, 0, 128, 'a'}, 8, math.MaxInt},
	} {
		c := octet.NewCursor(x.b)
		if s := c.Text(x.width, x.most); s != "" || c.Err() != api.ErrForm || c.Done() != api.ErrForm {
			t.Errorf("%v of width %d, most %d: %q, %d, %d", x.b, x.width, x.most, s, c.Err(), c.Done())
		}
		if n := c.Number(1); n != 0 || c.Err() != api.ErrForm {
			t.Errorf("%v: behind its error: %d, %d", x.b, n, c.Err())
		}
	}
}

func TestTextOfTooFewBytes(t *testing.T) {
	for _, x := range []struct {
		b           []byte
		width, most int
	}{
		{nil, 1, 9},
		{nil, 1, -1},
		{[]byte{1}, 2, 9},
		{[]byte{2, 'a'}, 1, 2},
		{[]byte{255}, 1, 255},
		{[]byte{255, 255, 255, 255, 255, 255, 255, 127, 'a'}, 8, math.MaxInt},
	} {
		c := octet.NewCursor(x.b)
		if s := c.Text(x.width, x.most); s != "" || c.Err() != api.ErrShort {
			t.Errorf("%v of width %d, most %d: %q, %d", x.b, x.width, x.most, s, c.Err())
		}
	}
}

func TestTextNoWidth(t *testing.T) {
	for _, w := range noWidths {
		c := octet.NewCursor([]byte{1, 'a', 'b'})
		if s := c.Text(w, 9); s != "" || c.Left() != 3 || c.Err() != api.OK {
			t.Errorf("width %d: %q, %d left, error %d", w, s, c.Left(), c.Err())
		}
	}
}

// Behind an error there would be bytes to read, but nothing is read, and the error stays.
func TestFirstErrorStays(t *testing.T) {
	c := octet.NewCursor([]byte{1, 'a', 3})
	c.Number(4)
	if n := c.Number(1); n != 0 {
		t.Error(n)
	}
	if b := c.Bytes(1); len(b) != 0 {
		t.Error(b)
	}
	if b := c.Bytes(0); len(b) != 0 {
		t.Error(b)
	}
	if s := c.Text(1, 9); s != "" {
		t.Error(s)
	}
	if s := c.Text(1, 0); s != "" {
		t.Error(s)
	}
	if c.Err() != api.ErrShort || c.Done() != api.ErrShort || c.Left() != 3 {
		t.Error(c.Err(), c.Done(), c.Left())
	}
	c = octet.NewCursor([]byte{9, 1})
	c.Text(1, 1)
	if b := c.Bytes(5); len(b) != 0 || c.Err() != api.ErrForm {
		t.Error(b, c.Err())
	}
}

func TestDone(t *testing.T) {
	if c := octet.NewCursor(nil); c.Left() != 0 || c.Err() != api.OK || c.Done() != api.OK {
		t.Error(c.Left(), c.Err(), c.Done())
	}
	c := octet.NewCursor([]byte{1, 2})
	if c.Left() != 2 || c.Err() != api.OK || c.Done() != api.ErrForm {
		t.Error(c.Left(), c.Err(), c.Done())
	}
	// To ask is no error of the cursor's own: it reads on.
	if n := c.Number(2); n != 0x0201 || c.Err() != api.OK || c.Done() != api.OK {
		t.Error(n, c.Err(), c.Done())
	}
}

func TestNilCursor(t *testing.T) {
	var c *octet.Cursor
	for _, w := range append(widths, noWidths...) {
		if c.Number(w) != 0 || c.Text(w, 9) != "" || c.Text(w, -1) != "" {
			t.Error("width", w)
		}
	}
	for _, n := range []int{0, 1, -1, math.MaxInt, math.MinInt} {
		if len(c.Bytes(n)) != 0 {
			t.Error("bytes", n)
		}
	}
	if c.Left() != 0 || c.Err() != api.ErrShort || c.Done() != api.ErrShort {
		t.Error(c.Left(), c.Err(), c.Done())
	}
}

func TestCursorKeepsNothingOfOthers(t *testing.T) {
	b, room := roomy(1, 2, 3, 4)
	c := octet.NewCursor(b)
	b[0], b[2] = 9, 9
	first := c.Bytes(2)
	if !bytes.Equal(first, []byte{1, 2}) {
		t.Error("the bytes that were handed in are kept:", first)
	}
	first[1] = 8
	_ = append(first, 8, 8)
	rest := c.Bytes(2)
	if !bytes.Equal(rest, []byte{3, 4}) {
		t.Error("an answer shares the cursor's memory:", rest)
	}
	rest[0] = 7
	if !bytes.Equal(b, []byte{9, 2, 9, 4}) || !bytes.Equal(room, bytes.Repeat([]byte{0xee}, 16)) {
		t.Error("what was handed in is changed:", b, room)
	}
	if b := c.Bytes(1); len(b) != 0 || c.Err() != api.ErrShort {
		t.Error("the room behind the end is read:", b)
	}
}

func TestCursorsAreApart(t *testing.T) {
	b := []byte{1, 2}
	one, other := octet.NewCursor(b), octet.NewCursor(b)
	one.Number(4)
	if other.Number(2) != 0x0201 || other.Done() != api.OK || one.Err() != api.ErrShort {
		t.Error("a cursor's place or error is another's")
	}
}

// P1.3

// samples stand at both sides of each power of 2, and anywhere between.
func samples() []uint64 {
	l := []uint64{0, math.MaxUint64}
	for i := range 64 {
		p := uint64(1) << i
		l = append(l, p-1, p, p+1, ^p)
	}
	x := uint64(88172645463325252)
	for range 200 {
		x ^= x << 13
		x ^= x >> 7
		x ^= x << 17
		l = append(l, x)
	}
	return l
}

func TestNumbersComeBack(t *testing.T) {
	for _, w := range widths {
		var b []byte
		for _, n := range samples() {
			b = octet.Put(b, w, n)
		}
		if len(b) != w*len(samples()) {
			t.Fatalf("width %d: %d bytes", w, len(b))
		}
		c := octet.NewCursor(b)
		for _, n := range samples() {
			if got := c.Number(w); got != n&greatest[w] || octet.Fits(w, n) != (got == n) {
				t.Fatalf("width %d: %x comes back as %x", w, n, got)
			}
		}
		if c.Done() != api.OK {
			t.Errorf("width %d: %d", w, c.Done())
		}
	}
}

func TestNumbersOfAllWidthsComeBack(t *testing.T) {
	var b []byte
	for i, n := range samples() {
		b = octet.Put(b, widths[i%4], n)
	}
	c := octet.NewCursor(b)
	for i, n := range samples() {
		if got := c.Number(widths[i%4]); got != n&greatest[widths[i%4]] {
			t.Fatalf("width %d: %x comes back as %x", widths[i%4], n, got)
		}
	}
	if c.Done() != api.OK {
		t.Error(c.Done())
	}
}

func TestTextsComeBack(t *testing.T) {
	for _, w := range widths {
		for size := range 256 {
			text := bytes.Repeat([]byte{byte(size)}, size)
			b := append(octet.Put(nil, w, uint64(size)), text...)
			c := octet.NewCursor(b)
			if s := c.Text(w, size); s != string(text) || c.Done() != api.OK {
				t.Fatalf("width %d, size %d: %q, %d", w, size, s, c.Done())
			}
		}
	}
}
