package box_test

import (
	"bytes"
	"encoding/binary"
	"encoding/hex"
	"hash/crc32"
	"math"
	"slices"
	"strings"
	"testing"

	"taximeter/api"
	"taximeter/box"
)

// noise makes numbers of all bits, ever the same ones.
func noise() func() uint64 {
	x := uint64(88172645463325252)
	return func() uint64 {
		x ^= x << 13
		x ^= x >> 7
		x ^= x << 17
		return x * 2685821657736338717
	}
}

// some are n bytes of many values.
func some(n int) []byte {
	next := noise()
	b := make([]byte, n)
	for i := range b {
		b[i] = byte(next() >> 56)
	}
	return b
}

var castagnoli = crc32.MakeTable(crc32.Castagnoli)

// seal is bytes and their sum, made by the library.
func seal(b []byte) []byte {
	return binary.LittleEndian.AppendUint32(slices.Clone(b), crc32.Checksum(b, castagnoli))
}

// lay is a box that says n, sealed rightly; whether it may be is not asked.
func lay(n int, body []byte) []byte {
	return seal(append(binary.LittleEndian.AppendUint16(nil, uint16(n)), body...))
}

func boxOf(body []byte) []byte {
	return lay(len(body), body)
}

func boxesOf(bodies ...[]byte) []byte {
	var b []byte
	for _, body := range bodies {
		b = append(b, boxOf(body)...)
	}
	return b
}

// read is what the chapter says of Next, put down once more.
func read(b []byte, at int) ([]byte, int, api.Errno) {
	if at < 0 || at > len(b) {
		return nil, 0, api.ErrRange
	}
	rest := b[at:]
	if len(rest) < 2 {
		return nil, 0, api.ErrShort
	}
	n := int(rest[0]) + 256*int(rest[1])
	if n == 0 {
		return nil, 0, api.ErrForm
	}
	if n > 4096 {
		return nil, 0, api.ErrLong
	}
	if len(rest) < n+6 {
		return nil, 0, api.ErrShort
	}
	if !bytes.Equal(rest[:n+6], seal(rest[:n+2])) {
		return nil, 0, api.ErrSum
	}
	return rest[2 : n+2], at + n + 6, api.OK
}

// readAll is what the chapter says of Valid.
func readAll(b []byte) ([][]byte, int) {
	var l [][]byte
	at := 0
	for {
		body, end, err := read(b, at)
		if err != api.OK {
			return l, at
		}
		l = append(l, body)
		at = end
	}
}

func equal(a, b [][]byte) bool {
	return slices.EqualFunc(a, b, bytes.Equal)
}

// short is bytes as a message can bear them.
func short(b []byte) string {
	if len(b) > 40 {
		return hex.EncodeToString(b[:40]) + ".."
	}
	return hex.EncodeToString(b)
}

// holdNext: Next answers that, beside an error nothing.
func holdNext(t *testing.T, b []byte, at int, want []byte, wantEnd int, wantErr api.Errno) {
	t.Helper()
	body, end, err := box.Next(b, at)
	if !bytes.Equal(body, want) || end != wantEnd || err != wantErr {
		t.Errorf("%s at %d: %s, %d, error %d, not %s, %d, error %d", short(b), at, short(body), end, err, short(want), wantEnd, wantErr)
	}
}

func holdError(t *testing.T, b []byte, at int, want api.Errno) {
	t.Helper()
	holdNext(t, b, at, nil, 0, want)
}

// holdAsRead: Next answers what the chapter says, read once more.
func holdAsRead(t *testing.T, b []byte, at int) {
	t.Helper()
	body, end, err := read(b, at)
	holdNext(t, b, at, body, end, err)
}

func holdValid(t *testing.T, b []byte, want [][]byte, wantEnd int) {
	t.Helper()
	l, end := box.Valid(b)
	if !equal(l, want) || end != wantEnd {
		t.Errorf("%s: %d boxes, up to %d, not %d, up to %d, or others", short(b), len(l), end, len(want), wantEnd)
	}
}

// holdPut: behind b stands a box of body.
func holdPut(t *testing.T, b, body []byte) {
	t.Helper()
	got, err := box.Put(b, body)
	if want := slices.Concat(b, boxOf(body)); err != api.OK || !bytes.Equal(got, want) {
		t.Errorf("%s behind %s: %s, error %d, not %s", short(body), short(b), short(got), err, short(want))
	}
	holdNext(t, got, len(b), body, len(got), api.OK)
}

func unhex(t *testing.T, s string) []byte {
	t.Helper()
	b, err := hex.DecodeString(strings.ReplaceAll(s, " ", ""))
	if err != nil {
		t.Fatal(err)
	}
	return b
}

// bodies are of one byte, of some, and of many, with bytes that look like a number or a box among them.
func bodies() [][]byte {
	return [][]byte{
		[]byte("a"), {0}, {255}, {1}, []byte("bc"), {0, 0}, {1, 0}, []byte("hello"), boxOf([]byte("a")), make([]byte, 6), make([]byte, 7),
		some(31), some(100), bytes.Repeat([]byte{255}, 254), some(255), some(256), some(257), some(1000), some(api.MaxBody - 1), some(api.MaxBody),
	}
}

// ahead is what boxes are put behind: nothing, other bytes, and other boxes.
func ahead() [][]byte {
	return [][]byte{nil, {}, {0}, {1, 0}, {9, 9}, []byte("bytes that are no box"), some(300), boxOf([]byte("a")), boxesOf([]byte("a"), []byte("bc")), boxOf(some(api.MaxBody)), boxesOf(bodies()...)}
}

// P12.1: Put

func TestExample(t *testing.T) {
	b, err := box.Put(nil, []byte("a"))
	if want := unhex(t, "01 00 61 65218856"); err != api.OK || !bytes.Equal(b, want) {
		t.Errorf("%x, error %d, not %x", b, err, want)
	}
}

func TestKnownBoxes(t *testing.T) {
	for _, x := range []struct{ body, want string }{
		{"00", "0100 00 043125c5"},
		{"ff", "0100 ff 55625868"},
		{"6263", "0200 6263 381d4f22"},
		{"68656c6c6f", "0500 68656c6c6f 0d4edea9"},
		{"010061", "0300 010061 de44ad3b"},
	} {
		body, want := unhex(t, x.body), unhex(t, x.want)
		if b, err := box.Put(nil, body); err != api.OK || !bytes.Equal(b, want) {
			t.Errorf("%s: %x, error %d, not %x", x.body, b, err, want)
		}
		holdNext(t, want, 0, body, len(want), api.OK)
		holdValid(t, want, [][]byte{body}, len(want))
	}
}

func TestKnownGreatBoxes(t *testing.T) {
	for _, x := range []struct {
		body      []byte
		head, sum string
	}{
		{bytes.Repeat([]byte("a"), 256), "0001", "deaaed16"},
		{make([]byte, api.MaxBody), "0010", "dd231ed8"},
	} {
		want := slices.Concat(unhex(t, x.head), x.body, unhex(t, x.sum))
		if b, err := box.Put(nil, x.body); err != api.OK || !bytes.Equal(b, want) {
			t.Errorf("%d bytes: %s, error %d", len(x.body), short(b), err)
		}
		holdNext(t, want, 0, x.body, len(want), api.OK)
	}
}

func TestPutBehind(t *testing.T) {
	for _, b := range ahead() {
		for _, body := range bodies() {
			holdPut(t, b, body)
		}
	}
}

func TestPutOfEachByte(t *testing.T) {
	for x := range 256 {
		holdPut(t, nil, []byte{byte(x)})
		holdPut(t, []byte{byte(x)}, []byte{byte(x)})
	}
}

func TestPutOfNoBytes(t *testing.T) {
	for _, b := range ahead() {
		for _, body := range [][]byte{nil, {}, []byte("a")[:0]} {
			if got, err := box.Put(b, body); err != api.ErrForm || len(got) > 0 {
				t.Errorf("no bytes behind %s: %s, error %d", short(b), short(got), err)
			}
		}
	}
}

// Some of them have a number whose two lowest bytes are one that may be.
func TestPutOfTooManyBytes(t *testing.T) {
	for _, n := range []int{api.MaxBody + 1, api.MaxBody + 2, api.MaxBody + 256, 2 * api.MaxBody, 1<<15 + 1, 1<<16 - 1, 1 << 16, 1<<16 + 1, 1<<16 + api.MaxBody, 1<<20 + 5} {
		body := some(n)
		for _, b := range ahead() {
			if got, err := box.Put(b, body); err != api.ErrLong || len(got) > 0 {
				t.Errorf("%d bytes behind %s: %s, error %d", n, short(b), short(got), err)
			}
		}
	}
}

func TestEachLength(t *testing.T) {
	body := some(api.MaxBody + 3)
	for n := range len(body) + 1 {
		b, err := box.Put([]byte{7}, body[:n])
		switch {
		case n == 0:
			if err != api.ErrForm || len(b) > 0 {
				t.Errorf("no bytes: %s, error %d", short(b), err)
			}
		case n > api.MaxBody:
			if err != api.ErrLong || len(b) > 0 {
				t.Errorf("%d bytes: %s, error %d", n, short(b), err)
			}
		default:
			if err != api.OK || len(b) != 1+box.Size(n) || !bytes.Equal(b[1:], boxOf(body[:n])) {
				t.Errorf("%d bytes: %s, error %d", n, short(b), err)
			}
			holdNext(t, b, 1, body[:n], len(b), api.OK)
		}
	}
}

// P12.1: Size

func TestSize(t *testing.T) {
	for _, x := range []struct{ n, want int }{
		{1, 7}, {2, 8}, {3, 9}, {5, 11}, {249, 255}, {250, 256}, {255, 261}, {256, 262}, {api.MaxBody - 1, 4101}, {api.MaxBody, 4102},
		{0, 0}, {-1, 0}, {-2, 0}, {-5, 0}, {-6, 0}, {-7, 0}, {-256, 0}, {-api.MaxBody, 0}, {1 - 1<<16, 0}, {math.MinInt, 0}, {math.MinInt + 1, 0},
		{api.MaxBody + 1, 0}, {api.MaxBody + 2, 0}, {2 * api.MaxBody, 0}, {1<<16 - 1, 0}, {1 << 16, 0}, {1<<16 + 1, 0}, {1<<32 + 1, 0}, {1<<62 + 1, 0},
		{math.MaxInt - 6, 0}, {math.MaxInt - 5, 0}, {math.MaxInt - 1, 0}, {math.MaxInt, 0},
	} {
		if got := box.Size(x.n); got != x.want {
			t.Errorf("%d bytes: %d, not %d", x.n, got, x.want)
		}
	}
}

func TestSizeOfEachNumber(t *testing.T) {
	for n := -1 << 13; n <= 1<<17; n++ {
		want := 0
		if n >= 1 && n <= 4096 {
			want = n + 6
		}
		if got := box.Size(n); got != want {
			t.Errorf("%d bytes: %d, not %d", n, got, want)
		}
	}
}

// P12.2: Next

// farPlaces are of no bytes of the tests.
var farPlaces = []int{-1, -2, -3, -6, -7, -256, -1 << 16, -1 << 32, math.MinInt, math.MinInt + 1, 1 << 20, 1 << 32, 1<<32 + 1, math.MaxInt - 6, math.MaxInt - 2, math.MaxInt - 1, math.MaxInt}

func TestPlaces(t *testing.T) {
	lists := append(ahead(), []byte{1}, boxOf(some(1000)), some(1000))
	for _, b := range lists {
		for _, at := range farPlaces {
			holdError(t, b, at, api.ErrRange)
		}
		for at := len(b) + 1; at < len(b)+20; at++ {
			holdError(t, b, at, api.ErrRange)
			holdError(t, b, -at, api.ErrRange)
		}
		holdError(t, b, len(b), api.ErrShort)
		for at := range min(len(b), 3000) {
			holdAsRead(t, b, at)
		}
	}
}

// What lies in the room behind the end is not there: not as a place, not as a box's bytes.
func TestPlacesInTheRoomBehind(t *testing.T) {
	whole := boxesOf([]byte("a"), []byte("bc"), []byte("hello"))
	for n := range whole {
		b := whole[:n]
		for at := range len(whole) + 3 {
			holdAsRead(t, b, at)
		}
		want, end := readAll(slices.Clone(b))
		holdValid(t, b, want, end)
	}
}

func TestBoxesAreFoundAgain(t *testing.T) {
	for _, first := range [][]byte{nil, {0}, {1, 0}, some(20)} {
		b := slices.Clone(first)
		var ends []int
		for _, body := range bodies() {
			var err api.Errno
			b, err = box.Put(b, body)
			if err != api.OK {
				t.Fatalf("%s: error %d", short(body), err)
			}
			ends = append(ends, len(b))
		}
		at := len(first)
		for i, body := range bodies() {
			holdNext(t, b, at, body, ends[i], api.OK)
			at = ends[i]
		}
		holdError(t, b, at, api.ErrShort)
		if at != len(b) {
			t.Errorf("the last box ends at %d, not %d", at, len(b))
		}
	}
}

func TestFewBytes(t *testing.T) {
	holdError(t, nil, 0, api.ErrShort)
	holdError(t, []byte{}, 0, api.ErrShort)
	for x := range 256 {
		holdError(t, []byte{byte(x)}, 0, api.ErrShort)
		holdError(t, []byte{byte(x)}, 1, api.ErrShort)
		holdError(t, []byte{byte(x)}, 2, api.ErrRange)
		holdError(t, []byte{0, byte(x)}, 1, api.ErrShort)
		holdError(t, []byte{255, 255, byte(x)}, 2, api.ErrShort)
	}
}

func TestTwoBytes(t *testing.T) {
	for n := range 1 << 16 {
		want := api.ErrShort
		if n == 0 {
			want = api.ErrForm
		} else if n > api.MaxBody {
			want = api.ErrLong
		}
		two := []byte{byte(n), byte(n >> 8)}
		holdError(t, two, 0, want)
		holdError(t, append([]byte{9}, two...), 1, want)
		holdValid(t, two, nil, 0)
	}
}

// The number says n; there are fewer bytes, as many, or more behind it, each time with a seal of what there is, or with none.
func TestNumbers(t *testing.T) {
	for _, n := range []int{0, 1, 2, 5, 6, 7, 255, 256, 257, api.MaxBody - 1, api.MaxBody, api.MaxBody + 1, api.MaxBody + 2, 1 << 13, 1 << 15, 1<<16 - 2, 1<<16 - 1} {
		for _, many := range []int{0, 1, n - 2, n - 1, n, n + 1, n + 2, n + 100} {
			if many < 0 {
				continue
			}
			body := some(many)
			for _, b := range [][]byte{lay(n, body), lay(n, body)[:2+many], append(lay(n, body), 0), append(lay(n, body), boxOf(body)...)} {
				holdAsRead(t, b, 0)
				holdAsRead(t, append([]byte{9, 9, 9}, b...), 3)
				want, end := readAll(b)
				holdValid(t, b, want, end)
			}
		}
	}
}

func TestNumbersAtTheLimits(t *testing.T) {
	holdError(t, lay(0, nil), 0, api.ErrForm)
	holdError(t, lay(0, []byte("a")), 0, api.ErrForm)
	holdNext(t, lay(1, []byte("a")), 0, []byte("a"), 7, api.OK)
	holdNext(t, lay(api.MaxBody, some(api.MaxBody)), 0, some(api.MaxBody), api.MaxBody+6, api.OK)
	holdError(t, lay(api.MaxBody+1, some(api.MaxBody+1)), 0, api.ErrLong)
	holdError(t, lay(1<<16-1, some(1<<16-1)), 0, api.ErrLong)
	holdError(t, lay(1<<16-1, some(1<<16 - 1)[:7]), 0, api.ErrLong)
}

func TestBoxesThatAreCutOff(t *testing.T) {
	for _, body := range bodies() {
		b := boxOf(body)
		for n := range b {
			holdError(t, b[:n], 0, api.ErrShort)
			holdError(t, slices.Clone(b[:n]), 0, api.ErrShort)
		}
		for n := range min(len(b), 50) {
			holdError(t, slices.Concat(boxOf([]byte("a")), b[:n]), 7, api.ErrShort)
		}
	}
}

func TestOneMoreByteBehind(t *testing.T) {
	for _, body := range bodies() {
		b := boxOf(body)
		for x := range 256 {
			more := append(slices.Clone(b), byte(x))
			holdNext(t, more, 0, body, len(b), api.OK)
			holdError(t, more, len(b), api.ErrShort)
			holdValid(t, more, [][]byte{body}, len(b))
		}
	}
}

// Each byte of a box becomes each other one, behind which there is nothing, a byte, or another box.
func TestEachByteChanged(t *testing.T) {
	for _, body := range [][]byte{[]byte("a"), []byte("bc"), []byte("hello"), boxOf([]byte("a")), some(31)} {
		b := boxOf(body)
		for _, behind := range [][]byte{nil, {0}, boxOf([]byte("a")), boxOf(some(300))} {
			for i := range b {
				for x := range 256 {
					if byte(x) == b[i] {
						continue
					}
					changed := slices.Concat(b, behind)
					changed[i] = byte(x)
					holdAsRead(t, changed, 0)
					if i > 1 {
						holdError(t, changed, 0, api.ErrSum)
					}
					holdValid(t, changed, nil, 0)
				}
			}
		}
	}
}

func TestAnyByteOfAGreatBoxChanged(t *testing.T) {
	b := boxOf(some(api.MaxBody))
	next := noise()
	for i := range b {
		changed := slices.Clone(b)
		changed[i] ^= byte(1 + next()>>32%255)
		holdAsRead(t, changed, 0)
		if i > 1 {
			holdError(t, changed, 0, api.ErrSum)
		}
	}
}

// The sum is that of the number, too: bytes that are sealed without it are no box, nor are those whose sum is the wrong way round.
func TestOtherSums(t *testing.T) {
	for _, body := range [][]byte{[]byte("a"), []byte("hello"), some(100), some(api.MaxBody)} {
		head := binary.LittleEndian.AppendUint16(nil, uint16(len(body)))
		sealed := slices.Concat(head, body)
		for _, sum := range []uint32{
			crc32.Checksum(body, castagnoli), crc32.ChecksumIEEE(sealed), crc32.ChecksumIEEE(body), ^crc32.Checksum(sealed, castagnoli),
			crc32.Checksum(sealed, castagnoli) + 1, crc32.Checksum(sealed, castagnoli) - 1, crc32.Checksum(sealed[:len(sealed)-1], castagnoli), 0, math.MaxUint32,
		} {
			holdError(t, binary.LittleEndian.AppendUint32(slices.Clone(sealed), sum), 0, api.ErrSum)
		}
		holdError(t, binary.BigEndian.AppendUint32(slices.Clone(sealed), crc32.Checksum(sealed, castagnoli)), 0, api.ErrSum)
		holdNext(t, binary.LittleEndian.AppendUint32(slices.Clone(sealed), crc32.Checksum(sealed, castagnoli)), 0, body, len(body)+6, api.OK)
	}
}

// A number the other way round would be another one.
func TestNumbersTheOtherWayRound(t *testing.T) {
	holdError(t, seal(append([]byte{0, 1}, 'a')), 0, api.ErrShort)
	holdError(t, seal(append([]byte{1, 1}, some(256)...)), 0, api.ErrShort)
	holdError(t, seal(append([]byte{0, 17}, some(17)...)), 0, api.ErrLong)
	holdNext(t, seal(append([]byte{0, 1}, some(256)...)), 0, some(256), 262, api.OK)
	holdNext(t, seal(append([]byte{1, 1}, some(257)...)), 0, some(257), 263, api.OK)
}

func TestWhichErrorComesFirst(t *testing.T) {
	for _, x := range []struct {
		b    string
		at   int
		want api.Errno
	}{
		{"", 1, api.ErrRange},                     // no such place, and too few bytes
		{"", -1, api.ErrRange},                    // so, too
		{"0000", 3, api.ErrRange},                 // so, too
		{"0000", -1, api.ErrRange},                // and a number of 0
		{"0100 61 65218856", -1, api.ErrRange},    // and a box
		{"0100 61 65218856", 8, api.ErrRange},     // behind the end of one
		{"0100 61 65218856", 7, api.ErrShort},     // at its end
		{"00", 0, api.ErrShort},                   // one byte, and maybe a number of 0
		{"01", 0, api.ErrShort},                   // so, too
		{"ff", 0, api.ErrShort},                   // one byte, and maybe a number that is too great
		{"0000", 0, api.ErrForm},                  // a number of 0, and too few bytes
		{"0000 61", 0, api.ErrForm},               // so, too
		{"0000 d27761f1", 0, api.ErrForm},         // a number of 0, sealed
		{"0000 d27761f2", 0, api.ErrForm},         // a number of 0, and another sum
		{"0110", 0, api.ErrLong},                  // a number that is too great, and too few bytes
		{"0110 6161", 0, api.ErrLong},             // so, too
		{"ffff", 0, api.ErrLong},                  // so, too
		{"0100", 0, api.ErrShort},                 // too few bytes
		{"0010", 0, api.ErrShort},                 // so, too
		{"0100 61", 0, api.ErrShort},              // so, too
		{"0100 61 652188", 0, api.ErrShort},       // so, too
		{"0100 61 652189", 0, api.ErrShort},       // and another sum
		{"0100 62 000000", 0, api.ErrShort},       // so, too
		{"0200 61 65218856", 0, api.ErrShort},     // so, too
		{"0100 61 65218857", 0, api.ErrSum},       // another sum
		{"0200 61 6521885600", 0, api.ErrSum},     // so, too
		{"0100 61 65218857 0000", 0, api.ErrSum},  // another sum, and no box behind
		{"0100 61 65218856 0000", 0, api.OK},      // no box behind
		{"0100 61 65218856 0000", 7, api.ErrForm}, // so, too
		{"0100 61 65218856 00", 7, api.ErrShort},  // so, too
		{"0100 61 65218856 0100", 7, api.ErrShort},
		{"0100 61 65218856 0110", 7, api.ErrLong},
	} {
		if body, end, err := box.Next(unhex(t, x.b), x.at); err != x.want || err != api.OK && (len(body) > 0 || end != 0) {
			t.Errorf("%s at %d: %x, %d, error %d, not %d", x.b, x.at, body, end, err, x.want)
		}
	}
	great := lay(api.MaxBody+1, some(api.MaxBody+1))
	great[len(great)-1] ^= 1
	holdError(t, great, 0, api.ErrLong) // and another sum
	great = boxOf(some(api.MaxBody))
	great[5] ^= 1
	holdError(t, great[:len(great)-1], 0, api.ErrShort) // and another sum
	holdError(t, great, 0, api.ErrSum)
}

func TestNextAtEachPlace(t *testing.T) {
	b := slices.Concat(boxesOf(bodies()[:14]...), []byte{0, 0, 1, 0, 0, 16, 1, 16})
	for at := -3; at <= len(b)+3; at++ {
		holdAsRead(t, b, at)
	}
}

// P12.2: Valid

func TestValidOfNoBox(t *testing.T) {
	for _, b := range [][]byte{
		nil, {}, {0}, {1}, {255}, {0, 0}, {1, 0}, {0, 16}, {1, 16}, {255, 255}, make([]byte, 7), make([]byte, 100), bytes.Repeat([]byte{1}, 1000), some(5000),
		boxOf([]byte("a"))[1:], boxOf([]byte("a"))[:6], lay(0, nil), lay(0, []byte("a")), lay(api.MaxBody+1, some(api.MaxBody+1)),
		slices.Concat([]byte{0}, boxOf([]byte("a"))), slices.Concat(lay(0, nil), boxOf([]byte("a"))),
	} {
		if l, at := box.Valid(b); len(l) > 0 || at != 0 {
			t.Errorf("%s: %d boxes, up to %d", short(b), len(l), at)
		}
	}
}

func TestValidOfBoxes(t *testing.T) {
	for _, body := range bodies() {
		holdValid(t, boxOf(body), [][]byte{body}, len(body)+6)
	}
	all := bodies()
	for n := range len(all) + 1 {
		b := boxesOf(all[:n]...)
		holdValid(t, b, all[:n], len(b))
	}
	same := [][]byte{[]byte("a"), []byte("a"), []byte("a")}
	holdValid(t, boxesOf(same...), same, 21)
}

// What is no box behind the boxes, and boxes behind that, are not told.
func TestValidUpToWhatIsNone(t *testing.T) {
	right := boxesOf([]byte("d"), []byte("e"))
	wrong := boxOf([]byte("c"))
	wrong[2]++
	for n := range 4 {
		want := bodies()[:n]
		b := boxesOf(want...)
		for _, none := range [][]byte{{0}, {1}, {9, 9}, {0, 0}, {1, 16}, {255, 255}, {1, 0, 97}, lay(0, nil), lay(0, []byte("c")), lay(api.MaxBody+1, some(api.MaxBody+1)), wrong, wrong[:6], right[1:7], right[:6], some(50)} {
			holdValid(t, slices.Concat(b, none), want, len(b))
		}
		for _, none := range [][]byte{{0, 0}, {1, 16}, {255, 255}, lay(0, nil), wrong, lay(api.MaxBody+1, some(api.MaxBody+1))} {
			holdValid(t, slices.Concat(b, none, right), want, len(b))
		}
	}
}

func TestValidEndsWhereNextErrs(t *testing.T) {
	all := boxesOf(bodies()[:14]...)
	for i := range all {
		changed := slices.Clone(all)
		changed[i] ^= 1 << (i % 8)
		l, at := box.Valid(changed)
		end := 0
		for _, body := range l {
			holdNext(t, changed, end, body, end+len(body)+6, api.OK)
			end += len(body) + 6
		}
		if _, _, err := box.Next(changed, at); at != end || err == api.OK {
			t.Errorf("byte %d changed: up to %d, not %d, where there is error %d", i, at, end, err)
		}
		if at > i {
			t.Errorf("byte %d changed: up to %d", i, at)
		}
	}
}

// So many boxes would take far too long, if at each one all that are behind were copied.
func TestValidOfManyBoxes(t *testing.T) {
	many := 200000
	body := []byte{5}
	b := bytes.Repeat(boxOf(body), many)
	l, at := box.Valid(append(b, 1))
	if len(l) != many || at != len(b) {
		t.Fatalf("%d boxes, up to %d", len(l), at)
	}
	for i := range l {
		if !bytes.Equal(l[i], body) {
			t.Fatalf("box %d: %x", i, l[i])
		}
	}
}

// P12.3: boxes that were put

// Cut off anywhere, boxes are told up to the last whole one.
func TestBoxesCutOffAnywhere(t *testing.T) {
	for _, l := range [][][]byte{
		{[]byte("a")},
		{[]byte("a"), []byte("bc")},
		{{0}, {0}, {0}, {0}},
		{some(api.MaxBody), []byte("a")},
		{[]byte("a"), some(api.MaxBody), []byte("b")},
		bodies()[:14],
	} {
		var b []byte
		var ends []int
		for _, body := range l {
			b, _ = box.Put(b, body)
			ends = append(ends, len(b))
		}
		for n := range len(b) + 1 {
			whole, at := 0, 0
			for whole < len(l) && ends[whole] <= n {
				at = ends[whole]
				whole++
			}
			holdValid(t, b[:n], l[:whole], at)
		}
	}
}

func TestManyBoxesCutOffAnywhere(t *testing.T) {
	next := noise()
	for range 3000 {
		var b []byte
		var l [][]byte
		for range next() >> 32 % 12 {
			body := some(1 + int(next()>>32%60))
			body[0] = byte(next() >> 40)
			var err api.Errno
			if b, err = box.Put(b, body); err != api.OK {
				t.Fatalf("%s: error %d", short(body), err)
			}
			l = append(l, body)
		}
		holdValid(t, b, l, len(b))
		n := int(next() >> 32 % uint64(len(b)+1))
		got, at := box.Valid(b[:n])
		if !equal(got, l[:len(got)]) || at > n || !bytes.Equal(boxesOf(got...), b[:at]) {
			t.Fatalf("%d of %d bytes: %d boxes, up to %d", n, len(b), len(got), at)
		}
		if len(got) < len(l) && at+len(l[len(got)])+6 <= n {
			t.Fatalf("%d of %d bytes: box %d is whole, and not told", n, len(b), len(got))
		}
	}
}

// P12.3: boxes that were changed

// holdNone: what was changed at a place behind the number is no box, and Valid goes up to it.
func holdNone(t *testing.T, changed []byte, at int) {
	t.Helper()
	holdError(t, changed, at, api.ErrSum)
	l, end := box.Valid(changed)
	if end != at || !bytes.Equal(boxesOf(l...), changed[:at]) {
		t.Errorf("%s: %d boxes, up to %d, not %d", short(changed), len(l), end, at)
	}
}

// Of a box of one byte each one or two bytes, one behind the other, become all others that they may.
func TestUpToTwoBytesChanged(t *testing.T) {
	b := boxOf([]byte("a"))
	for i := 2; i+2 <= len(b); i++ {
		changed := slices.Clone(b)
		for x := range 1 << 16 {
			binary.LittleEndian.PutUint16(changed[i:], uint16(x))
			want := api.ErrSum
			if bytes.Equal(changed, b) {
				want = api.OK
			}
			if _, _, err := box.Next(changed, 0); err != want {
				t.Fatalf("%x: error %d, not %d", changed, err, want)
			}
		}
	}
}

// Up to four bytes become others, at each place of boxes of many lengths, the first and the last one of them surely.
func TestUpToFourBytesChanged(t *testing.T) {
	next := noise()
	ahead := boxesOf([]byte("a"), []byte("bc"))
	for _, n := range []int{1, 2, 3, 4, 5, 6, 7, 8, 15, 16, 17, 24, 31, 32, 33, 64, 100, 255, 256, 300} {
		b := boxOf(some(n))
		for i := 2; i < len(b); i++ {
			for many := 1; many <= 4 && i+many <= len(b); many++ {
				for range 8 {
					change := make([]byte, many)
					for k := range change {
						change[k] = byte(next() >> 48)
					}
					change[0] |= 1 << (next() >> 61)
					change[many-1] |= 1 << (next() >> 61)
					changed := slices.Clone(b)
					for k, x := range change {
						changed[i+k] ^= x
					}
					holdNone(t, changed, 0)
					holdNone(t, slices.Concat(ahead, changed), len(ahead))
				}
			}
		}
	}
}

// Changes that a weaker sum lets by: few bits, all bits, zeros, one more or less, bytes that change their places, the sum's own turns.
func TestPlainChangesOfFourBytes(t *testing.T) {
	for _, n := range []int{1, 2, 5, 30, 100} {
		b := boxOf(some(n))
		for i := 2; i+4 <= len(b); i++ {
			was := binary.LittleEndian.Uint32(b[i:])
			become := []uint32{0, math.MaxUint32, ^was, was + 1, was - 1, was<<8 | was>>24, was>>8 | was<<24, 0x82f63b78, was ^ 0x82f63b78, was ^ 0x1edc6f41, was ^ 0x05ec76f1}
			for k := range 32 {
				become = append(become, was^1<<k, was^3<<k, was^math.MaxUint32<<k)
			}
			for _, x := range become {
				changed := slices.Clone(b)
				binary.LittleEndian.PutUint32(changed[i:], x)
				if !bytes.Equal(changed, b) {
					holdNone(t, changed, 0)
				}
			}
		}
	}
}

func TestUpToFourBytesOfAGreatBoxChanged(t *testing.T) {
	next := noise()
	b := boxOf(some(api.MaxBody))
	for range 3000 {
		many := 1 + int(next()>>32%4)
		i := 2 + int(next()>>32%uint64(len(b)-many-1))
		changed := slices.Clone(b)
		for k := range many {
			changed[i+k] ^= byte(1 + next()>>32%255)
		}
		holdNone(t, changed, 0)
	}
}

// Many bytes, most of them boxes that were put, cut, changed, with others between, are told as the chapter says.
func TestManyBytes(t *testing.T) {
	next := noise()
	few := func(n uint64) int { return int(next() >> 32 % n) }
	for range 20000 {
		var b []byte
		for range few(8) {
			part := boxOf(some(1 + few(20)))
			switch few(12) {
			case 0:
				part = part[:few(uint64(len(part)))]
			case 1:
				part[few(uint64(len(part)))] ^= byte(1 + few(255))
			case 2:
				part = lay(few(9), some(few(9)))
			case 3:
				part = append(part, byte(few(3)))
			}
			b = append(b, part...)
		}
		for range 4 {
			holdAsRead(t, b, few(uint64(len(b)+4))-1)
		}
		want, end := readAll(b)
		holdValid(t, b, want, end)
	}
}

// What is handed in, and out

// roomy is bytes of a longer array, whose room behind the end must stay as it is.
func roomy(b []byte) (list, whole []byte) {
	whole = append(slices.Clone(b), bytes.Repeat([]byte{0xee}, 64)...)
	return whole[:len(b)], whole
}

func turn(b []byte) {
	for i := range b {
		b[i] = ^b[i]
	}
}

func TestPutChangesNothing(t *testing.T) {
	for _, first := range [][]byte{nil, {7}, boxOf([]byte("a")), some(50)} {
		for _, content := range [][]byte{nil, []byte("b"), []byte("hello"), some(40), some(api.MaxBody), some(api.MaxBody + 1)} {
			b, wholeB := roomy(first)
			body, wholeBody := roomy(content)
			beforeB, beforeBody := slices.Clone(wholeB), slices.Clone(wholeBody)
			box.Put(b, body)
			if !bytes.Equal(wholeB, beforeB) || !bytes.Equal(wholeBody, beforeBody) {
				t.Errorf("%s behind %s: %s and %s", short(beforeBody), short(beforeB), short(wholeBody), short(wholeB))
			}
		}
	}
}

func TestWhatPutAnswersIsSharedWithNobody(t *testing.T) {
	for _, first := range [][]byte{nil, {7}, boxOf([]byte("a"))} {
		b, wholeB := roomy(first)
		body, wholeBody := roomy([]byte("hello"))
		want := slices.Concat(first, boxOf([]byte("hello")))
		one, _ := box.Put(b, body)
		other, _ := box.Put(b, []byte("world"))
		third, _ := box.Put(b, body)
		turn(wholeB)
		turn(wholeBody)
		turn(other)
		turn(third)
		_ = append(third, "behind"...)
		if !bytes.Equal(one, want) {
			t.Errorf("%x, behind changes of other bytes, not %x", one, want)
		}
		turn(one)
		_ = append(one, "behind"...)
		turn(wholeB)
		turn(wholeBody)
		if !bytes.Equal(b, first) || string(body) != "hello" {
			t.Errorf("%x and %s, behind changes of what was answered", b, body)
		}
	}
}

func TestNextAndValidChangeNothing(t *testing.T) {
	right := boxesOf([]byte("a"), []byte("bc"), some(40))
	wrong := slices.Clone(right)
	wrong[9] ^= 1
	for _, l := range [][]byte{nil, {0}, {0, 0}, {1, 16}, right, wrong, right[:len(right)-1], append(slices.Clone(right), 1)} {
		b, whole := roomy(l)
		before := slices.Clone(whole)
		for at := -1; at <= len(b)+1; at++ {
			box.Next(b, at)
		}
		box.Valid(b)
		if !bytes.Equal(whole, before) {
			t.Errorf("%s became %s", short(before), short(whole))
		}
	}
}

func TestWhatNextAnswersIsSharedWithNobody(t *testing.T) {
	b, whole := roomy(boxesOf([]byte("hello"), []byte("world")))
	one, _, _ := box.Next(b, 0)
	again, _, _ := box.Next(b, 0)
	second, _, _ := box.Next(b, 11)
	turn(again)
	_ = append(again, "behind, and far behind"...)
	turn(whole)
	if string(one) != "hello" || string(second) != "world" {
		t.Errorf("%s and %s, behind changes of other bytes", one, second)
	}
	turn(whole)
	turn(one)
	_ = append(one, "behind, and far behind"...)
	if !bytes.Equal(b, boxesOf([]byte("hello"), []byte("world"))) || string(second) != "world" {
		t.Errorf("%x and %s, behind a change of what was answered", b, second)
	}
}

func TestWhatValidAnswersIsSharedWithNobody(t *testing.T) {
	want := [][]byte{[]byte("a"), []byte("bc"), []byte("hello"), some(40)}
	b, whole := roomy(boxesOf(want...))
	l, _ := box.Valid(b)
	again, _ := box.Valid(b)
	turn(whole)
	for i := range again {
		turn(again[i])
		again[i] = nil
	}
	if !equal(l, want) {
		t.Errorf("%x, behind changes of other bytes", l)
	}
	turn(whole)
	for i := range l {
		turn(l[i])
		_ = append(l[i], "behind, and far behind"...)
		if !equal(l[i+1:], want[i+1:]) {
			t.Errorf("%x, behind a change of the list ahead", l[i+1:])
		}
	}
	if !bytes.Equal(b, boxesOf(want...)) {
		t.Errorf("%x, behind changes of what was answered", b)
	}
}
