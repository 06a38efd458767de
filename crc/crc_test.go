package crc_test

import (
	"bytes"
	"hash/crc32"
	"math"
	"testing"

	"taximeter/crc"
)

// told are sums that are known from elsewhere (RFC 3720 has those of 32 and of 48 bytes).
var told = []struct {
	b   []byte
	sum uint32
}{
	{nil, 0},
	{[]byte{}, 0},
	{[]byte{0}, 0x527d5351},
	{[]byte("a"), 0xc1d04330},
	{[]byte("123456789"), 0xe3069283},
	{make([]byte, 32), 0x8a9136aa},
	{bytes.Repeat([]byte{0xff}, 32), 0x62a8ab43},
	{upFrom(0, 32), 0x46dd794e},
	{downFrom(31, 32), 0x113fdb5c},
	{[]byte{
		0x01, 0xc0, 0, 0, 0, 0, 0, 0, 0, 0, 0, 0, 0, 0, 0, 0,
		0x14, 0, 0, 0, 0, 0, 0x04, 0, 0, 0, 0, 0x14, 0, 0, 0, 0x18,
		0x28, 0, 0, 0, 0, 0, 0, 0, 0x02, 0, 0, 0, 0, 0, 0, 0,
	}, 0xd9963a56},
}

func upFrom(first byte, n int) []byte {
	b := make([]byte, n)
	for i := range b {
		b[i] = first + byte(i)
	}
	return b
}

func downFrom(first byte, n int) []byte {
	b := make([]byte, n)
	for i := range b {
		b[i] = first - byte(i)
	}
	return b
}

// samples are bytes of every length from none to 40, and a long one, of many values.
func samples() [][]byte {
	l := [][]byte{nil}
	x := uint32(2463534242)
	for n := range 42 {
		if n == 41 {
			n = 5000
		}
		b := make([]byte, n)
		for i := range b {
			x ^= x << 13
			x ^= x >> 17
			x ^= x << 5
			b[i] = byte(x >> 11)
		}
		l = append(l, b)
	}
	return l
}

// roomy is bytes of a longer array, whose room behind the end must stay as it is.
func roomy(b []byte) (list, room []byte) {
	all := append(append([]byte{}, b...), bytes.Repeat([]byte{0xee}, 16)...)
	return all[:len(b)], all[len(b):]
}

func untouched(room []byte) bool {
	return bytes.Equal(room, bytes.Repeat([]byte{0xee}, 16))
}

// another is the library's sum, made apart from the program's.
func another(b []byte) uint32 {
	return crc32.Checksum(b, crc32.MakeTable(crc32.Castagnoli))
}

// P2.1

func TestSum(t *testing.T) {
	for _, x := range told {
		if got := crc.Sum(x.b); got != x.sum {
			t.Errorf("%x: %08x, not %08x", x.b, got, x.sum)
		}
	}
}

func TestSumOfEachByte(t *testing.T) {
	for x := range 256 {
		b := []byte{byte(x)}
		if got := crc.Sum(b); got != another(b) {
			t.Errorf("%x: %08x, not %08x", b, got, another(b))
		}
	}
}

func TestSumOfEachLength(t *testing.T) {
	for _, b := range samples() {
		if got := crc.Sum(b); got != another(b) {
			t.Errorf("%d bytes: %08x, not %08x", len(b), got, another(b))
		}
	}
}

func TestMore(t *testing.T) {
	for _, x := range []struct {
		first, behind string
		want          uint32
	}{
		{"1234", "56789", 0xe3069283},
		{"", "123456789", 0xe3069283},
		{"123456789", "", 0xe3069283},
		{"12345678", "9", 0xe3069283},
		{"", "", 0},
	} {
		if got := crc.More(crc.Sum([]byte(x.first)), []byte(x.behind)); got != x.want {
			t.Errorf("%q and %q: %08x, not %08x", x.first, x.behind, got, x.want)
		}
	}
}

// Any number is some bytes' sum: one goes on from each as from those.
func TestMoreOfAnyNumber(t *testing.T) {
	table := crc32.MakeTable(crc32.Castagnoli)
	for _, sum := range []uint32{0, 1, 0x82f63b78, 1 << 31, math.MaxInt32, math.MaxUint32} {
		for _, b := range samples() {
			if got := crc.More(sum, b); got != crc32.Update(sum, table, b) {
				t.Errorf("%08x and %d bytes: %08x", sum, len(b), got)
			}
		}
		if got := crc.More(sum, nil); got != sum {
			t.Errorf("%08x and nothing: %08x", sum, got)
		}
	}
}

func TestSumsChangeNothing(t *testing.T) {
	b, room := roomy([]byte("123456789"))
	crc.Sum(b)
	crc.More(7, b)
	if string(b) != "123456789" || !untouched(room) {
		t.Error(b, room)
	}
	if crc.Sum(b) != 0xe3069283 {
		t.Error("the room behind the end is summed, or a sum hangs on one before")
	}
}

// P2.2

func TestSeal(t *testing.T) {
	for _, x := range []struct{ b, want []byte }{
		{nil, []byte{0, 0, 0, 0}},
		{[]byte{}, []byte{0, 0, 0, 0}},
		{[]byte("a"), []byte{'a', 0x30, 0x43, 0xd0, 0xc1}},
		{[]byte("123456789"), append([]byte("123456789"), 0x83, 0x92, 0x06, 0xe3)},
	} {
		if got := crc.Seal(x.b); !bytes.Equal(got, x.want) {
			t.Errorf("%q: %x, not %x", x.b, got, x.want)
		}
	}
}

func TestOpen(t *testing.T) {
	for _, x := range []struct{ b, want []byte }{
		{[]byte{0, 0, 0, 0}, nil},
		{[]byte{'a', 0x30, 0x43, 0xd0, 0xc1}, []byte("a")},
		{append([]byte("123456789"), 0x83, 0x92, 0x06, 0xe3), []byte("123456789")},
	} {
		if got, is := crc.Open(x.b); !is || !bytes.Equal(got, x.want) {
			t.Errorf("%x: %x, %v", x.b, got, is)
		}
	}
}

func TestOpenWhatIsNoSeal(t *testing.T) {
	for _, b := range [][]byte{
		nil,
		{},
		{0},
		{0, 0},
		{0, 0, 0},
		{1, 2, 3},
		{1, 2, 3, 4},
		{0, 0, 0, 1},
		{1, 0, 0, 0},
		{0xff, 0xff, 0xff, 0xff},
		{0, 0, 0, 0, 0},
		{0, 0, 0, 0, 0, 0, 0, 0},
		{'a', 0xc1, 0xd0, 0x43, 0x30},
		{0x30, 0x43, 0xd0, 0xc1, 'a'},
		{'a', 0x30, 0x43, 0xd0},
		{'a', 0x30, 0x43, 0xd0, 0xc1, 0},
		{'b', 0x30, 0x43, 0xd0, 0xc1},
		append([]byte("123456789"), 0xe3, 0x06, 0x92, 0x83),
		append([]byte("123456789"), 0x7c, 0x6d, 0xf9, 0x1c),
		append([]byte("12345678"), 0x83, 0x92, 0x06, 0xe3),
	} {
		if got, is := crc.Open(b); is || len(got) != 0 {
			t.Errorf("%x: %x, %v", b, got, is)
		}
	}
}

// The sum's last byte lies in the room behind the end: it must not be read there.
func TestOpenReadsNoRoom(t *testing.T) {
	b := crc.Seal([]byte("abc"))
	if got, is := crc.Open(b[:6:7]); is || len(got) != 0 {
		t.Error(got, is)
	}
	if got, is := crc.Open(b[:3:7]); is || len(got) != 0 {
		t.Error(got, is)
	}
}

func TestSealAnswersNewMemory(t *testing.T) {
	b, room := roomy([]byte("abc"))
	one, other := crc.Seal(b), crc.Seal(b)
	want := bytes.Clone(other)
	one[0], one[6] = 'x', 0
	if string(b) != "abc" || !bytes.Equal(other, want) {
		t.Error("an answer shares memory with b, or with another one")
	}
	b[1] = 'y'
	if !bytes.Equal(other, want) {
		t.Error("b is kept")
	}
	if !untouched(room) {
		t.Error("the room behind b is changed:", room)
	}
	room[0] = 1
	if !bytes.Equal(other, want) {
		t.Error("the room behind b is answered")
	}
}

func TestOpenAnswersNewMemory(t *testing.T) {
	sealed := crc.Seal([]byte("abc"))
	b, room := roomy(sealed)
	one, _ := crc.Open(b)
	other, _ := crc.Open(b)
	one[0] = 'x'
	_ = append(one, 1, 2, 3, 4, 5, 6)
	if !bytes.Equal(b, sealed) || string(other) != "abc" {
		t.Error("an answer shares memory with b, or with another one")
	}
	b[1] = 'y'
	if string(other) != "abc" {
		t.Error("b is kept")
	}
	if !untouched(room) {
		t.Error("the room behind b is changed:", room)
	}
}

// P2.3

func TestSumsGoOn(t *testing.T) {
	for _, b := range samples() {
		step := 1 + len(b)/40
		for at := 0; at <= len(b); at += step {
			if got := crc.More(crc.Sum(b[:at]), b[at:]); got != crc.Sum(b) {
				t.Fatalf("%d bytes and %d: %08x, not %08x", at, len(b)-at, got, crc.Sum(b))
			}
		}
		sum := crc.Sum(nil)
		for _, x := range b {
			sum = crc.More(sum, []byte{x})
		}
		if sum != crc.Sum(b) {
			t.Fatalf("%d bytes, one by one: %08x, not %08x", len(b), sum, crc.Sum(b))
		}
	}
}

func TestWhatIsSealedOpens(t *testing.T) {
	for _, b := range samples() {
		sealed := crc.Seal(b)
		if len(sealed) != len(b)+4 {
			t.Fatalf("%d bytes are sealed in %d", len(b), len(sealed))
		}
		if got, is := crc.Open(sealed); !is || !bytes.Equal(got, b) {
			t.Fatalf("%d bytes: %x, %v", len(b), got, is)
		}
		if got, is := crc.Open(crc.Seal(sealed)); !is || !bytes.Equal(got, sealed) {
			t.Fatalf("a seal of a seal of %d bytes: %x, %v", len(b), got, is)
		}
	}
}

// stillOpens: does b open, with the bytes from at on xored by change?
func stillOpens(b []byte, at int, change ...byte) bool {
	other := bytes.Clone(b)
	for i, x := range change {
		other[at+i] ^= x
	}
	got, is := crc.Open(other)
	return is || len(got) != 0
}

func TestOneOtherByteDoesNotOpen(t *testing.T) {
	for _, b := range samples()[:12] {
		sealed := crc.Seal(b)
		for at := range sealed {
			for change := 1; change < 256; change++ {
				if stillOpens(sealed, at, byte(change)) {
					t.Fatalf("%x opens with byte %d xored by %x", sealed, at, change)
				}
			}
		}
	}
}

// The first and the last of the bytes are others, and those between are, or are not.
func TestUpToFourOtherBytesDoNotOpen(t *testing.T) {
	edges := []byte{1, 0x10, 0x80, 0xff}
	between := []byte{0, 1, 0x42, 0xff}
	for _, b := range samples() {
		if len(b) > 40 {
			b = b[:40]
		}
		sealed := crc.Seal(b)
		for at := range sealed {
			for _, first := range edges {
				for _, last := range edges {
					if at+2 <= len(sealed) && stillOpens(sealed, at, first, last) {
						t.Fatalf("%x opens with two others at %d", sealed, at)
					}
					for _, x := range between {
						if at+3 <= len(sealed) && stillOpens(sealed, at, first, x, last) {
							t.Fatalf("%x opens with three others at %d", sealed, at)
						}
						for _, y := range between {
							if at+4 <= len(sealed) && stillOpens(sealed, at, first, x, y, last) {
								t.Fatalf("%x opens with four others at %d", sealed, at)
							}
						}
					}
				}
			}
		}
	}
}
