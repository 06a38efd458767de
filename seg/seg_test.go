package seg_test

import (
	"bytes"
	"encoding/binary"
	"encoding/hex"
	"fmt"
	"hash/crc32"
	"math"
	"regexp"
	"slices"
	"strings"
	"testing"

	"taximeter/api"
	"taximeter/box"
	"taximeter/rec"
	"taximeter/seg"
)

const most = uint64(math.MaxUint64)

// Bits of prices that may not be, or have edges.
const (
	minusZero = uint64(1) << 63
	infinite  = uint64(0x7ff0000000000000)
)

// quarter is the bits of a price that may be.
const quarter = uint64(0x3fd0000000000000)

// noise makes numbers of all bits, ever the same ones.
func noise() func() uint64 {
	x := uint64(88172645463325252)
	return func() uint64 {
		x ^= x << 13
		x ^= x >> 7
		x ^= x << 17
		return x * 2685821657736338717
	}
}

// numbers of 64 bits, rising: few, those around each power of 2, and the greatest.
func numbers() []uint64 {
	next := noise()
	l := []uint64{0, 1, 2, 9, 10, 15, 16, 255, 0x0123456789abcdef, 0xfedcba9876543210, most - 1, most}
	for i := range 64 {
		l = append(l, 1<<i-1, 1<<i, 1<<i+1, next()>>i)
	}
	slices.Sort(l)
	return slices.Compact(l)
}

// isName is what the chapter says of a segment's name.
var isName = regexp.MustCompile(`\Aw[0-9a-f]{16}\z`)

// noNames are none of a segment, most of them nearly one.
var noNames = []string{
	"", "w", "ww", "0", "1", "snap", "snap.new", "ledger", "-", "w-",
	"w1", "w00", "wff", "w000000000000001", "w00000000000000001", "w000000000000000000000000000000001", "w0", "wfffffffffffffff", "wfffffffffffffffff", "w10000000000000000",
	"0000000000000001", "00000000000000001", "000000000000000001", "ffffffffffffffff", "10000000000000000", "0w000000000000001",
	"W0000000000000001", "v0000000000000001", "x0000000000000001", "_0000000000000001", "ww000000000000001", "ww0000000000000001", "w0000000000000001w", "ww0000000000000001w", "w000000000000000w", "000000000000000w1", "0000000000000001w",
	"w00000000000000FF", "w00000000000000fF", "wFFFFFFFFFFFFFFFF", "w000000000000000A", "wA000000000000000", "w000000000000000g", "wg000000000000000", "w000000000000000G",
	"w0x00000000000001", "w0X00000000000001", "w0x0000000000000001", "wx000000000000001", "w0b00000000000001b", "w0b0000000000000g", "w0o00000000000001",
	"w+000000000000001", "w-000000000000001", "+w000000000000001", "-w000000000000001", "w 000000000000001", " w0000000000000001", "w0000000000000001 ", "w0000000000000001\n", "\nw0000000000000001", "w0000000000000001\x00", "\x00w0000000000000001", "w\x00000000000000001",
	"w_000000000000001", "w0_00000000000001", "w000000000000_001", "w00000000000000_", "w000000000000000_", "w0_0_0_0_0_0_0_0_", "w00000000_00000001", "w00000001.0000001", "w00000000000000e+1", "w00000000000001e0.", "w0000000000000p01",
	"é0000000000000001", "wé00000000000001", "w00000000000000é", "w００００００００００００００００", "w000000000000000١", "w000000000000000\xff", "\xff0000000000000001", "w0000000000000001\xff", "ｗ0000000000000001",
	"w0000000000000001w0000000000000002", "w0000000000000001 w0000000000000002", "w0000000000000001.tmp", "w/0000000000000001", "./w0000000000000001",
}

// kind is which fields a record of one has, and its least N.
type kind struct {
	lease, n, price bool
	least           uint64
}

var kinds = []kind{
	{n: true},
	{price: true},
	{lease: true, n: true, least: 1},
	{lease: true, n: true},
	{},
}

var isTenant = regexp.MustCompile(`\A[a-z][a-z0-9-]{0,15}\z`)

// samples are a record of each kind.
var samples = []api.Record{
	{Seq: 1, Kind: api.RecCap, Tenant: "a", N: 5},
	{Seq: 2, Kind: api.RecPrice, Tenant: "acme", Bits: quarter},
	{Seq: 258, Kind: api.RecReserve, Tenant: "a-1", Lease: 3, N: 24},
	{Seq: 1 << 40, Kind: api.RecSettle, Tenant: "abcdefghijklmnop", Lease: 1 << 33, N: 7},
	{Seq: most, Kind: api.RecClose, Tenant: "b"},
}

// wrong is a record that may not be, and what is told of it.
type wrong struct {
	r   api.Record
	err api.Errno
}

// wrongs have one fault, or more, of which the first is told.
var wrongs = []wrong{
	{api.Record{}, api.ErrKind},
	{api.Record{Seq: 1, Tenant: "a"}, api.ErrKind},
	{api.Record{Seq: 1, Kind: 6, Tenant: "a"}, api.ErrKind},
	{api.Record{Seq: 1, Kind: -1, Tenant: "a"}, api.ErrKind},
	{api.Record{Seq: 1, Kind: 257, Tenant: "a", N: 5}, api.ErrKind},
	{api.Record{Seq: 1, Kind: math.MinInt, Tenant: "a"}, api.ErrKind},
	{api.Record{Seq: 1, Kind: math.MaxInt, Tenant: "a"}, api.ErrKind},
	{api.Record{Kind: 9, Tenant: "A", Lease: 1, N: 1, Bits: infinite}, api.ErrKind},
	{api.Record{Seq: 1, Kind: api.RecCap}, api.ErrName},
	{api.Record{Seq: 1, Kind: api.RecClose, Tenant: "A"}, api.ErrName},
	{api.Record{Seq: 1, Kind: api.RecClose, Tenant: "1a"}, api.ErrName},
	{api.Record{Seq: 1, Kind: api.RecClose, Tenant: "abcdefghijklmnopq"}, api.ErrName},
	{api.Record{Seq: 1, Kind: api.RecClose, Tenant: strings.Repeat("a", 257)}, api.ErrName},
	{api.Record{Seq: 1, Kind: api.RecClose, Tenant: strings.Repeat("a", api.MaxBody+1)}, api.ErrName},
	{api.Record{Kind: api.RecReserve, Tenant: "a b", Bits: 1}, api.ErrName},
	{api.Record{Kind: api.RecCap, Tenant: "a", N: 5}, api.ErrRange},
	{api.Record{Kind: api.RecClose, Tenant: "a"}, api.ErrRange},
	{api.Record{Seq: 1, Kind: api.RecReserve, Tenant: "a", N: 5}, api.ErrRange},
	{api.Record{Seq: 1, Kind: api.RecReserve, Tenant: "a", Lease: 5}, api.ErrRange},
	{api.Record{Seq: 1, Kind: api.RecSettle, Tenant: "a", N: 5}, api.ErrRange},
	{api.Record{Kind: api.RecPrice, Tenant: "a", N: 5, Bits: infinite}, api.ErrRange},
	{api.Record{Seq: 1, Kind: api.RecPrice, Tenant: "a", Bits: minusZero}, api.ErrPrice},
	{api.Record{Seq: 1, Kind: api.RecPrice, Tenant: "a", Bits: infinite}, api.ErrPrice},
	{api.Record{Seq: 1, Kind: api.RecPrice, Tenant: "a", N: 5, Bits: most}, api.ErrPrice},
	{api.Record{Seq: 1, Kind: api.RecCap, Tenant: "a", Lease: 1, N: 5}, api.ErrForm},
	{api.Record{Seq: 1, Kind: api.RecCap, Tenant: "a", N: 5, Bits: quarter}, api.ErrForm},
	{api.Record{Seq: 1, Kind: api.RecPrice, Tenant: "a", N: 1, Bits: quarter}, api.ErrForm},
	{api.Record{Seq: 1, Kind: api.RecSettle, Tenant: "a", Lease: 1, Bits: minusZero}, api.ErrForm},
	{api.Record{Seq: 1, Kind: api.RecClose, Tenant: "a", N: 1}, api.ErrForm},
	{api.Record{Seq: 1, Kind: api.RecClose, Tenant: "a", Lease: most}, api.ErrForm},
}

// fieldsOf is none of what is no kind.
func fieldsOf(k int) kind {
	if k < 1 || k > len(kinds) {
		return kind{}
	}
	return kinds[k-1]
}

// lay is the bytes of a record, as chapter 11 says; whether it may be is not asked.
func lay(r api.Record) []byte {
	has := fieldsOf(r.Kind)
	b := binary.LittleEndian.AppendUint64([]byte{byte(r.Kind)}, r.Seq)
	b = append(append(b, byte(len(r.Tenant))), r.Tenant...)
	if has.lease {
		b = binary.LittleEndian.AppendUint64(b, r.Lease)
	}
	if has.n {
		b = binary.LittleEndian.AppendUint64(b, r.N)
	}
	if has.price {
		b = binary.LittleEndian.AppendUint64(b, r.Bits)
	}
	return b
}

var castagnoli = crc32.MakeTable(crc32.Castagnoli)

// boxOf is a box of bytes, as chapter 12 says, with the library's sum; whether it may be is not asked.
func boxOf(body []byte) []byte {
	b := append(binary.LittleEndian.AppendUint16(nil, uint16(len(body))), body...)
	return binary.LittleEndian.AppendUint32(b, crc32.Checksum(b, castagnoli))
}

// put is boxes of records, one behind the other.
func put(records ...api.Record) []byte {
	var b []byte
	for _, r := range records {
		b = append(b, boxOf(lay(r))...)
	}
	return b
}

// closes are records with these numbers, and nothing in them by which else they could be told apart.
func closes(seqs ...uint64) []api.Record {
	var l []api.Record
	for _, n := range seqs {
		l = append(l, api.Record{Seq: n, Kind: api.RecClose, Tenant: "a"})
	}
	return l
}

func putCloses(seqs ...uint64) []byte {
	return put(closes(seqs...)...)
}

// many are n records of all kinds, from a number on.
func many(first uint64, n int) []api.Record {
	var l []api.Record
	for i := range n {
		r := samples[i%len(samples)]
		r.Seq = first + uint64(i)
		l = append(l, r)
	}
	return l
}

// bodyAt is the bytes of the box at the beginning of b, and how long it is; nil if there is none.
func bodyAt(b []byte) ([]byte, int) {
	if len(b) < 2 {
		return nil, 0
	}
	n := int(binary.LittleEndian.Uint16(b))
	if n == 0 || n > 4096 || len(b) < n+6 || !bytes.Equal(b[:n+6], boxOf(b[2:n+2])) {
		return nil, 0
	}
	return b[2 : n+2], n + 6
}

// recordOf is the record whose bytes b is, told by making them again.
func recordOf(b []byte) (api.Record, bool) {
	if len(b) < 10 || b[0] < 1 || int(b[0]) > len(kinds) || len(b) < 10+int(b[9]) {
		return api.Record{}, false
	}
	has := kinds[b[0]-1]
	r := api.Record{Kind: int(b[0]), Seq: binary.LittleEndian.Uint64(b[1:]), Tenant: string(b[10 : 10+int(b[9])])}
	rest := append(slices.Clone(b[10+int(b[9]):]), make([]byte, 24)...)
	if has.lease {
		r.Lease = binary.LittleEndian.Uint64(rest)
		rest = rest[8:]
	}
	if has.n {
		r.N = binary.LittleEndian.Uint64(rest)
	}
	if has.price {
		r.Bits = binary.LittleEndian.Uint64(rest)
	}
	f := math.Float64frombits(r.Bits)
	priced := !has.price || f >= 0 && !math.IsInf(f, 1) && !math.Signbit(f)
	is := bytes.Equal(lay(r), b) && r.Seq > 0 && isTenant.MatchString(r.Tenant) && priced && (!has.lease || r.Lease > 0) && r.N >= has.least
	return r, is
}

// read is what the chapter says of the records of segments, put down once more.
func read(l [][]byte) []api.Record {
	var told []api.Record
	for _, b := range l {
		for {
			body, n := bodyAt(b)
			if n == 0 {
				break
			}
			r, is := recordOf(body)
			if !is {
				break
			}
			if len(told) > 0 {
				last := told[len(told)-1].Seq
				if last == most || r.Seq != last+1 {
					break
				}
			}
			told = append(told, r)
			b = b[n:]
		}
	}
	return told
}

func holdRecords(t *testing.T, l [][]byte, want []api.Record) {
	t.Helper()
	if got := seg.Records(l); !slices.Equal(got, want) {
		t.Errorf("%s: %+v, not %+v", short(l), got, want)
	}
}

// holdSeqs: of records that are all closes of one tenant these numbers are told.
func holdSeqs(t *testing.T, l [][]byte, want ...uint64) {
	t.Helper()
	holdRecords(t, l, closes(want...))
}

func holdAsRead(t *testing.T, l [][]byte) {
	t.Helper()
	holdRecords(t, l, read(l))
}

// short is segments as a message can bear them.
func short(l [][]byte) string {
	s := fmt.Sprintf("%x", l)
	if len(s) > 400 {
		return s[:400] + ".."
	}
	return s
}

func unhex(t *testing.T, s string) []byte {
	t.Helper()
	b, err := hex.DecodeString(strings.ReplaceAll(s, " ", ""))
	if err != nil {
		t.Fatal(err)
	}
	return b
}

// P13.1: Name, Number

func holdName(t *testing.T, n uint64, want string) {
	t.Helper()
	if got := seg.Name(n); got != want {
		t.Errorf("%d: %q, not %q", n, got, want)
	}
	if got, err := seg.Number(want); got != n || err != api.OK {
		t.Errorf("%q: %d, error %d, not %d", want, got, err, n)
	}
}

func holdNoName(t *testing.T, name string) {
	t.Helper()
	if n, err := seg.Number(name); n != 0 || err != api.ErrForm {
		t.Errorf("%q: %d, error %d, not 0, error %d", name, n, err, api.ErrForm)
	}
	if l := seg.Numbers([]string{name}); len(l) > 0 {
		t.Errorf("%q alone: %d", name, l)
	}
}

// holdNumber: the name is one, of the number that its digits say, or none, as the chapter's words have it.
func holdNumber(t *testing.T, name string) {
	t.Helper()
	if !isName.MatchString(name) {
		holdNoName(t, name)
		return
	}
	var n uint64
	for _, c := range []byte(name[1:]) {
		n = n<<4 | uint64(strings.IndexByte("0123456789abcdef", c))
	}
	holdName(t, n, name)
}

func TestExample(t *testing.T) {
	holdName(t, 255, "w00000000000000ff")
}

func TestKnownNames(t *testing.T) {
	holdName(t, 0, "w0000000000000000")
	holdName(t, 1, "w0000000000000001")
	holdName(t, 9, "w0000000000000009")
	holdName(t, 10, "w000000000000000a")
	holdName(t, 15, "w000000000000000f")
	holdName(t, 16, "w0000000000000010")
	holdName(t, 256, "w0000000000000100")
	holdName(t, 0x0123456789abcdef, "w0123456789abcdef")
	holdName(t, 0xfedcba9876543210, "wfedcba9876543210")
	holdName(t, 1<<60-1, "w0fffffffffffffff")
	holdName(t, 1<<60, "w1000000000000000")
	holdName(t, 1<<63-1, "w7fffffffffffffff")
	holdName(t, 1<<63, "w8000000000000000")
	holdName(t, most-1, "wfffffffffffffffe")
	holdName(t, most, "wffffffffffffffff")
}

func TestEachNumber(t *testing.T) {
	for _, n := range numbers() {
		holdName(t, n, fmt.Sprintf("w%016x", n))
	}
	for n := range uint64(1 << 16) {
		holdName(t, n, fmt.Sprintf("w%016x", n))
	}
}

func TestNamesThatAreNone(t *testing.T) {
	for _, name := range noNames {
		if isName.MatchString(name) {
			t.Fatalf("%q is a name", name)
		}
		holdNoName(t, name)
	}
}

func TestEachByteOfAName(t *testing.T) {
	for _, name := range []string{"w0000000000000000", "w0123456789abcdef", "wffffffffffffffff"} {
		for i := range name {
			for c := range 256 {
				b := []byte(name)
				b[i] = byte(c)
				holdNumber(t, string(b))
			}
		}
	}
}

func TestEachByteMoreInAName(t *testing.T) {
	for _, name := range []string{"w0000000000000000", "w0123456789abcdef", "wffffffffffffffff"} {
		for i := range len(name) + 1 {
			for c := range 256 {
				holdNumber(t, name[:i]+string([]byte{byte(c)})+name[i:])
				if i < len(name) {
					holdNumber(t, name[:i]+string([]byte{byte(c)})+name[min(i+2, len(name)):])
				}
			}
		}
	}
}

func TestEachByteFewerInAName(t *testing.T) {
	for _, name := range []string{"w0000000000000000", "w0123456789abcdef", "wffffffffffffffff"} {
		for i := range name {
			holdNoName(t, name[:i])
			holdNoName(t, name[i+1:])
			holdNoName(t, name[:i]+name[i+1:])
		}
	}
}

func TestEachLengthOfAName(t *testing.T) {
	for n := range 600 {
		for _, digit := range []string{"0", "1", "f", "w", "F"} {
			holdNumber(t, "w"+strings.Repeat(digit, n))
			holdNumber(t, strings.Repeat(digit, n))
			holdNumber(t, "w"+strings.Repeat("0", n)+digit)
		}
	}
	holdNoName(t, "w"+strings.Repeat("0", 1<<20))
	holdNoName(t, strings.Repeat("w", 1<<20))
	holdNoName(t, "w"+strings.Repeat("f", 1<<20))
}

// P13.1: Numbers

func holdNumbers(t *testing.T, names []string, want ...uint64) {
	t.Helper()
	if got := seg.Numbers(names); !slices.Equal(got, want) {
		t.Errorf("%q: %d, not %d", names, got, want)
	}
}

func TestNumbers(t *testing.T) {
	holdNumbers(t, nil)
	holdNumbers(t, []string{})
	holdNumbers(t, []string{""})
	holdNumbers(t, []string{"snap"})
	holdNumbers(t, noNames)
	holdNumbers(t, []string{seg.Name(0)}, 0)
	holdNumbers(t, []string{seg.Name(5)}, 5)
	holdNumbers(t, []string{"w0000000000000002", "snap", "w0000000000000001"}, 1, 2)
	holdNumbers(t, []string{"snap", "w0000000000000001", "w0000000000000002"}, 1, 2)
	holdNumbers(t, []string{"w0000000000000001", "w0000000000000002", "w3", "W0000000000000003"}, 1, 2)
	holdNumbers(t, []string{seg.Name(0), "", seg.Name(0)}, 0)
}

func TestNumbersAreToldOnce(t *testing.T) {
	holdNumbers(t, []string{seg.Name(3), seg.Name(3)}, 3)
	holdNumbers(t, []string{seg.Name(3), seg.Name(3), seg.Name(3), seg.Name(3)}, 3)
	holdNumbers(t, []string{seg.Name(3), seg.Name(1), seg.Name(3)}, 1, 3)
	holdNumbers(t, []string{seg.Name(3), "snap", seg.Name(1), seg.Name(3), seg.Name(1), "snap", seg.Name(2)}, 1, 2, 3)
	holdNumbers(t, []string{seg.Name(most), seg.Name(0), seg.Name(most), seg.Name(0)}, 0, most)
}

func TestNumbersRise(t *testing.T) {
	holdNumbers(t, []string{seg.Name(16), seg.Name(9), seg.Name(10), seg.Name(100), seg.Name(2)}, 2, 9, 10, 16, 100)
	holdNumbers(t, []string{seg.Name(1 << 63), seg.Name(1<<63 - 1)}, 1<<63-1, 1<<63)
	holdNumbers(t, []string{seg.Name(most), seg.Name(1 << 32), seg.Name(1), seg.Name(1<<63 + 1), seg.Name(0)}, 0, 1, 1<<32, 1<<63+1, most)
	l := numbers()
	var rising, falling []string
	for _, n := range l {
		rising = append(rising, seg.Name(n))
		falling = append([]string{seg.Name(n), "snap"}, falling...)
	}
	holdNumbers(t, rising, l...)
	holdNumbers(t, falling, l...)
	holdNumbers(t, append(falling, rising...), l...)
}

func TestNumbersOfManyNames(t *testing.T) {
	next := noise()
	known := numbers()
	for range 3000 {
		var names []string
		var want []uint64
		for range next() >> 32 % 40 {
			if next()>>32%4 == 0 {
				names = append(names, noNames[next()>>32%uint64(len(noNames))])
				continue
			}
			n := known[next()>>32%uint64(len(known))]
			names = append(names, fmt.Sprintf("w%016x", n))
			if !slices.Contains(want, n) {
				want = append(want, n)
			}
		}
		slices.Sort(want)
		holdNumbers(t, names, want...)
	}
}

// P13.2: Box

func holdBox(t *testing.T, r api.Record) {
	t.Helper()
	got, err := seg.Box(r)
	if want := put(r); err != api.OK || !bytes.Equal(got, want) {
		t.Errorf("%+v: %x, error %d, not %x", r, got, err, want)
	}
	holdRecords(t, [][]byte{got}, []api.Record{r})
}

func TestKnownBoxes(t *testing.T) {
	for _, x := range []struct {
		r    api.Record
		want string
	}{
		{api.Record{Seq: 1, Kind: api.RecCap, Tenant: "a", N: 5}, "1300 01 0100000000000000 01 61 0500000000000000 2e3a2dd3"},
		{api.Record{Seq: 258, Kind: api.RecReserve, Tenant: "a-1", Lease: 3, N: 24}, "1d00 03 0201000000000000 03 612d31 0300000000000000 1800000000000000 a331c781"},
		{api.Record{Seq: most, Kind: api.RecClose, Tenant: "b"}, "0b00 05 ffffffffffffffff 01 62 b66a9688"},
	} {
		want := unhex(t, x.want)
		if got, err := seg.Box(x.r); err != api.OK || !bytes.Equal(got, want) {
			t.Errorf("%+v: %x, error %d, not %x", x.r, got, err, want)
		}
		holdRecords(t, [][]byte{want}, []api.Record{x.r})
	}
}

func TestBoxOfEachKind(t *testing.T) {
	for _, r := range samples {
		for _, r.Seq = range numbers()[1:] {
			holdBox(t, r)
		}
		for _, r.Tenant = range []string{"a", "z9", "a-", "abcdefghijklmno", "abcdefghijklmnop", "a---------------"} {
			holdBox(t, r)
		}
	}
}

func TestBoxOfEachField(t *testing.T) {
	for _, n := range numbers() {
		holdBox(t, api.Record{Seq: 7, Kind: api.RecCap, Tenant: "acme", N: n})
		holdBox(t, api.Record{Seq: 7, Kind: api.RecSettle, Tenant: "acme", Lease: 1, N: n})
		if n > 0 {
			holdBox(t, api.Record{Seq: 7, Kind: api.RecSettle, Tenant: "acme", Lease: n})
			holdBox(t, api.Record{Seq: 7, Kind: api.RecReserve, Tenant: "acme", Lease: n, N: 1})
			holdBox(t, api.Record{Seq: 7, Kind: api.RecReserve, Tenant: "acme", Lease: 1, N: n})
		}
		if n < infinite {
			holdBox(t, api.Record{Seq: 7, Kind: api.RecPrice, Tenant: "acme", Bits: n})
		}
	}
}

func TestBoxIsOneOfLayer12(t *testing.T) {
	for _, r := range samples {
		b, _ := seg.Box(r)
		body, end, err := box.Next(b, 0)
		want, _ := rec.Encode(r)
		if !bytes.Equal(body, want) || end != len(b) || end != box.Size(len(want)) || err != api.OK {
			t.Errorf("%+v: a box of %x, up to %d, error %d, not of %x", r, body, end, err, want)
		}
	}
}

func TestBoxOfWhatIsNoRecord(t *testing.T) {
	for _, x := range wrongs {
		b, err := seg.Box(x.r)
		if err != x.err || len(b) > 0 {
			t.Errorf("%+v: %x, error %d, not error %d", x.r, b, err, x.err)
		}
		if _, told := rec.Encode(x.r); err != told {
			t.Errorf("%+v: error %d, not layer 11's %d", x.r, err, told)
		}
	}
}

// P13.2: Records

func TestNoRecords(t *testing.T) {
	for _, l := range [][][]byte{
		nil, {}, {nil}, {{}}, {nil, {}, nil},
		{{0}}, {{0, 0}}, {{1, 0, 0}}, {[]byte("snap")}, {make([]byte, 1000)}, {bytes.Repeat([]byte{255}, 1000)}, {{255, 255}, {1}, nil, {0, 0, 0, 0, 0, 0}},
	} {
		holdRecords(t, l, nil)
		holdSeqs(t, append(slices.Clone(l), putCloses(3, 4)), 3, 4)
		holdSeqs(t, append([][]byte{putCloses(3, 4)}, l...), 3, 4)
	}
}

func TestRecordsOfOneSegment(t *testing.T) {
	holdSeqs(t, [][]byte{putCloses(1)}, 1)
	holdSeqs(t, [][]byte{putCloses(1, 2)}, 1, 2)
	holdSeqs(t, [][]byte{putCloses(1, 2, 3, 4, 5)}, 1, 2, 3, 4, 5)
	holdRecords(t, [][]byte{put(many(1, 100)...)}, many(1, 100))
}

func TestRecordsOfManySegments(t *testing.T) {
	holdSeqs(t, [][]byte{putCloses(1), putCloses(2)}, 1, 2)
	holdSeqs(t, [][]byte{putCloses(1, 2), putCloses(3, 4), putCloses(5)}, 1, 2, 3, 4, 5)
	holdSeqs(t, [][]byte{nil, putCloses(1, 2), nil, {}, putCloses(3, 4), nil}, 1, 2, 3, 4)
	var l [][]byte
	for _, r := range many(1, 300) {
		l = append(l, put(r))
	}
	holdRecords(t, l, many(1, 300))
}

// The very first record may have any number, wherever it stands; a segment's first one must be the awaited one.
func TestTheVeryFirstRecord(t *testing.T) {
	for _, r := range samples {
		for _, r.Seq = range numbers()[1:] {
			holdRecords(t, [][]byte{put(r)}, []api.Record{r})
			holdRecords(t, [][]byte{nil, {1, 2, 3}, put(r)}, []api.Record{r})
			holdRecords(t, [][]byte{boxOf([]byte("no record")), put(r)}, []api.Record{r})
			after := r
			after.Seq++
			if r.Seq < most {
				holdRecords(t, [][]byte{put(r, after)}, []api.Record{r, after})
				holdRecords(t, [][]byte{put(r), put(after)}, []api.Record{r, after})
			}
		}
	}
}

func TestTheVeryFirstOneIsNoRecord(t *testing.T) {
	for _, body := range noRecords() {
		holdSeqs(t, [][]byte{boxOf(body)})
		holdSeqs(t, [][]byte{slices.Concat(boxOf(body), putCloses(1, 2))})
		holdSeqs(t, [][]byte{slices.Concat(boxOf(body), putCloses(1, 2)), putCloses(8, 9)}, 8, 9)
		holdSeqs(t, [][]byte{slices.Concat(boxOf(body), putCloses(1, 2)), slices.Concat(boxOf(body), putCloses(1, 2)), putCloses(7), putCloses(1, 2), putCloses(8)}, 7, 8)
	}
}

func TestNumbersThatAreNotOneMore(t *testing.T) {
	for _, n := range numbers() {
		if n == 5 || n == 6 {
			continue
		}
		holdSeqs(t, [][]byte{putCloses(4, n)}, firsts(4, n)...)
		holdSeqs(t, [][]byte{putCloses(3, 4, n, 5)}, firsts(3, 4, n, 5)...)
		holdSeqs(t, [][]byte{putCloses(4, 5, n, 6)}, 4, 5)
		holdSeqs(t, [][]byte{putCloses(4, 5, n, 6), putCloses(6)}, 4, 5, 6)
		holdSeqs(t, [][]byte{putCloses(4, 5), putCloses(n, 6), putCloses(n), putCloses(6, 7)}, 4, 5, 6, 7)
		holdSeqs(t, [][]byte{putCloses(4, 5), putCloses(n), putCloses(n + 1)}, 4, 5)
	}
}

// firsts are the numbers that go up by one each, from the first on.
func firsts(l ...uint64) []uint64 {
	for i := range l {
		if i > 0 && l[i] != l[i-1]+1 {
			return l[:i]
		}
	}
	return l
}

func TestNumbersAgain(t *testing.T) {
	holdSeqs(t, [][]byte{putCloses(4, 4)}, 4)
	holdSeqs(t, [][]byte{putCloses(4), putCloses(4)}, 4)
	holdSeqs(t, [][]byte{putCloses(4, 5), putCloses(4, 5)}, 4, 5)
	holdSeqs(t, [][]byte{putCloses(4, 5), putCloses(5, 6)}, 4, 5)
	holdSeqs(t, [][]byte{putCloses(4, 5), putCloses(5, 6), putCloses(6, 7)}, 4, 5, 6, 7)
	holdSeqs(t, [][]byte{putCloses(4, 5, 4, 5, 6)}, 4, 5)
	holdSeqs(t, [][]byte{putCloses(9), putCloses(1, 2, 3), putCloses(10)}, 9, 10)
}

// What was not told does not count as the record ahead.
func TestNumbersBehindOneThatIsLeft(t *testing.T) {
	holdSeqs(t, [][]byte{putCloses(4, 5, 7), putCloses(8)}, 4, 5)
	holdSeqs(t, [][]byte{putCloses(4, 5, 7, 8), putCloses(8), putCloses(6), putCloses(9), putCloses(7)}, 4, 5, 6, 7)
	holdSeqs(t, [][]byte{putCloses(4, 5, 7, 6)}, 4, 5)
	holdSeqs(t, [][]byte{putCloses(4, 5, 7, 6), putCloses(7)}, 4, 5)
	holdSeqs(t, [][]byte{putCloses(1, 3), putCloses(4, 2), putCloses(3), putCloses(2)}, 1, 2)
}

// Behind the greatest number none may come: not 0, which no record has, and none as if it were the first.
func TestBehindTheGreatestNumber(t *testing.T) {
	zero := putCloses(0)
	holdSeqs(t, [][]byte{putCloses(most)}, most)
	holdSeqs(t, [][]byte{putCloses(most - 1), putCloses(most)}, most-1, most)
	for _, n := range numbers() {
		holdSeqs(t, [][]byte{putCloses(most, n)}, most)
		holdSeqs(t, [][]byte{putCloses(most), putCloses(n)}, most)
		holdSeqs(t, [][]byte{putCloses(most-1, most, n), putCloses(n, n+1)}, most-1, most)
		holdSeqs(t, [][]byte{putCloses(most), zero, putCloses(n)}, most)
	}
	holdSeqs(t, [][]byte{zero})
	holdSeqs(t, [][]byte{putCloses(0, 1)})
	holdSeqs(t, [][]byte{zero, putCloses(1)}, 1)
	holdSeqs(t, [][]byte{putCloses(most, 0, 1), putCloses(0, 1), putCloses(1, 2)}, most)
}

// noRecords are bytes that may stand in a box, and are no record's, some of them with the number that is awaited behind 5.
func noRecords() [][]byte {
	l := [][]byte{[]byte("a"), []byte("no record"), {0}, {5}, {255}, make([]byte, 11), bytes.Repeat([]byte{5}, 300), make([]byte, api.MaxBody), putCloses(6)}
	for _, x := range wrongs {
		x.r.Seq *= 6
		l = append(l, lay(x.r))
	}
	for _, r := range samples {
		r.Seq = 6
		b := lay(r)
		l = append(l, b[:1], b[:9], b[:len(b)-1], append(slices.Clone(b), 0), append(slices.Clone(b), b...))
	}
	return slices.DeleteFunc(l, func(b []byte) bool {
		_, is := recordOf(b)
		return is || len(b) > api.MaxBody
	})
}

func TestBoxesOfNoRecord(t *testing.T) {
	bodies := noRecords()
	if len(bodies) < 40 {
		t.Fatalf("%d of no record", len(bodies))
	}
	for _, body := range bodies {
		none := boxOf(body)
		holdSeqs(t, [][]byte{slices.Concat(putCloses(4, 5), none)}, 4, 5)
		holdSeqs(t, [][]byte{slices.Concat(putCloses(4, 5), none, putCloses(6, 7))}, 4, 5)
		holdSeqs(t, [][]byte{slices.Concat(putCloses(4, 5), none, putCloses(7))}, 4, 5)
		holdSeqs(t, [][]byte{slices.Concat(putCloses(4, 5), none, putCloses(6, 7)), putCloses(6, 7)}, 4, 5, 6, 7)
		holdSeqs(t, [][]byte{slices.Concat(putCloses(4, 5), none, putCloses(6)), putCloses(7)}, 4, 5)
		holdSeqs(t, [][]byte{putCloses(4, 5), none, putCloses(6)}, 4, 5, 6)
		holdSeqs(t, [][]byte{putCloses(4, 5), slices.Concat(none, putCloses(6)), putCloses(7), putCloses(6)}, 4, 5, 6)
	}
}

func TestWhatIsNoBox(t *testing.T) {
	changed := putCloses(6)
	changed[len(changed)-1] ^= 1
	for _, none := range [][]byte{{0}, {1}, {0, 0}, {0, 0, 0, 0, 0, 0}, {1, 0}, {1, 0, 5}, {255, 255}, {1, 16}, changed, putCloses(6)[:5], putCloses(6)[1:], boxOf(make([]byte, api.MaxBody+1)), lay(closes(6)[0])} {
		holdSeqs(t, [][]byte{slices.Concat(putCloses(4, 5), none)}, 4, 5)
		holdSeqs(t, [][]byte{slices.Concat(putCloses(4, 5), none, putCloses(6))}, 4, 5)
		holdSeqs(t, [][]byte{slices.Concat(putCloses(4, 5), none, putCloses(6)), putCloses(6, 7)}, 4, 5, 6, 7)
		holdSeqs(t, [][]byte{putCloses(4, 5), slices.Concat(none, putCloses(6)), putCloses(6)}, 4, 5, 6)
		holdSeqs(t, [][]byte{slices.Concat(none, putCloses(4)), putCloses(9)}, 9)
	}
}

func TestEachByteChanged(t *testing.T) {
	l := many(5, 6)
	for i, r := range l {
		ahead, b, behind := put(l[:i]...), put(r), put(l[i+1:]...)
		for at := range b {
			for x := 1; x < 256; x++ {
				changed := slices.Clone(b)
				changed[at] ^= byte(x)
				whole := slices.Concat(ahead, changed, behind)
				holdRecords(t, [][]byte{whole}, l[:i])
				if x == 1 {
					holdRecords(t, [][]byte{whole, put(l[i:]...)}, l)
				}
			}
		}
	}
}

// Each byte of a record is another one, with a sum that is right: it is told as the chapters say.
func TestEachByteOfARecordSealed(t *testing.T) {
	for i, r := range many(5, 5) {
		ahead := put(many(5, i)...)
		for at := range lay(r) {
			for x := range 256 {
				body := lay(r)
				body[at] = byte(x)
				holdAsRead(t, [][]byte{slices.Concat(ahead, boxOf(body), putCloses(r.Seq+1)), putCloses(r.Seq, r.Seq+1), putCloses(r.Seq + 2)})
			}
		}
	}
}

// Boxes that are right, wrong, torn and in any order are told as the chapter says.
func TestManySegments(t *testing.T) {
	next := noise()
	few := func(n int) int { return int(next() >> 32 % uint64(n)) }
	none := noRecords()
	longest := 0
	for range 20000 {
		seq := []uint64{1, 2, 300, most - 8, most - 2}[few(5)]
		l := make([][]byte, few(6))
		for i := range l {
			for range few(6) {
				r := many(seq, 5)[few(5)]
				r.Seq = seq
				seq++
				part := put(r)
				switch few(16) {
				case 0:
					part = put(r, r)
				case 1:
					seq += uint64(few(3))
				case 2:
					seq -= uint64(few(3))
				case 3:
					part[few(len(part))] ^= byte(1 + few(255))
				case 4:
					part = boxOf(none[few(len(none))])
				case 5:
					part = part[:few(len(part))]
				}
				l[i] = append(l[i], part...)
			}
			if few(4) == 0 {
				l[i] = l[i][:few(len(l[i])+1)]
				seq -= uint64(few(3))
			}
		}
		longest = max(longest, len(read(l)))
		holdAsRead(t, l)
	}
	if longest < 10 {
		t.Errorf("at most %d records", longest)
	}
}

// A call keeps nothing for the one behind it.
func TestCallsAreApart(t *testing.T) {
	for range 3 {
		holdSeqs(t, [][]byte{putCloses(4, 5), putCloses(6)}, 4, 5, 6)
		holdSeqs(t, [][]byte{putCloses(4)}, 4)
		holdSeqs(t, [][]byte{putCloses(most)}, most)
		holdSeqs(t, nil)
		holdSeqs(t, [][]byte{putCloses(1, 2)}, 1, 2)
	}
}

// P13.3

func TestNamesComeBack(t *testing.T) {
	next := noise()
	for i := range 1 << 16 {
		n := next() >> (i % 64)
		if got, err := seg.Number(seg.Name(n)); got != n || err != api.OK {
			t.Errorf("%d: %d, error %d", n, got, err)
		}
	}
}

func TestNamesRiseAsTheirNumbers(t *testing.T) {
	l := numbers()
	for i, a := range l {
		for k, b := range l {
			if (seg.Name(a) < seg.Name(b)) != (i < k) {
				t.Errorf("%q and %q, of %d and %d", seg.Name(a), seg.Name(b), a, b)
			}
		}
	}
	for n := range uint64(5000) {
		if seg.Name(n) >= seg.Name(n+1) || seg.Name(most-n-1) >= seg.Name(most-n) {
			t.Errorf("the names of %d and %d, or of %d and %d, do not rise", n, n+1, most-n-1, most-n)
		}
	}
}

// boxed is the records' boxes, as the package makes them.
func boxed(t *testing.T, l []api.Record) [][]byte {
	t.Helper()
	var boxes [][]byte
	for _, r := range l {
		b, err := seg.Box(r)
		if err != api.OK {
			t.Fatalf("%+v: error %d", r, err)
		}
		boxes = append(boxes, b)
	}
	return boxes
}

// cut lays boxes into segments: behind each one whose bit is set a new one begins.
func cut(boxes [][]byte, bits int) [][]byte {
	l := [][]byte{nil}
	for i, b := range boxes {
		l[len(l)-1] = append(l[len(l)-1], b...)
		if bits>>i&1 > 0 {
			l = append(l, nil)
		}
	}
	return l
}

func TestRecordsCutAnywhereComeBack(t *testing.T) {
	for _, first := range []uint64{1, 255, 1 << 32, most - 9} {
		l := many(first, 10)
		boxes := boxed(t, l)
		for bits := range 1 << len(boxes) {
			holdRecords(t, cut(boxes, bits), l)
		}
	}
}

// Of a last segment that is torn anywhere there is a beginning: all records whose boxes are whole. Those that are put once more into a new segment come behind.
func TestATornEnd(t *testing.T) {
	l := many(7, 8)
	boxes := boxed(t, l)
	for _, bits := range []int{0, 1, 2, 4, 8, 1 << 6, 1<<2 | 1<<5, 1<<7 - 1} {
		segments := cut(boxes, bits)
		ahead, last := segments[:len(segments)-1], segments[len(segments)-1]
		sure := len(seg.Records(ahead))
		for n := range len(last) + 1 {
			whole, end := sure, 0
			for whole < len(boxes) && end+len(boxes[whole]) <= n {
				end += len(boxes[whole])
				whole++
			}
			torn := append(slices.Clone(ahead), last[:n])
			holdRecords(t, torn, l[:whole])
			holdRecords(t, append(torn, bytes.Join(boxes[whole:], nil)), l)
			holdRecords(t, append(torn, nil, bytes.Join(boxes[whole:], nil)), l)
		}
	}
}

func TestATornEndWithOtherBytesBehind(t *testing.T) {
	l := many(7, 4)
	boxes := boxed(t, l)
	whole := bytes.Join(boxes, nil)
	for n := range boxes[3] {
		torn := whole[:len(whole)-len(boxes[3])+n]
		for _, behind := range [][]byte{make([]byte, 100), bytes.Repeat([]byte{255}, 100), []byte("snap")} {
			b := slices.Concat(torn, behind)
			if bytes.HasPrefix(b, whole) {
				continue
			}
			holdRecords(t, [][]byte{b}, l[:3])
		}
	}
}

// What is handed in, and out

// roomy is bytes of a longer array, whose room behind the end must stay as it is, and is not read.
func roomy(b, behind []byte) (list, whole []byte) {
	whole = slices.Concat(b, behind)
	return whole[:len(b)], whole
}

func turn(b []byte) {
	for i := range b {
		b[i] = ^b[i]
	}
}

func TestWhatLiesBehindTheEndIsNotThere(t *testing.T) {
	whole := putCloses(4, 5, 6)
	for n := range whole {
		holdSeqs(t, [][]byte{whole[:n]}, []uint64{4, 5, 6}[:3*n/len(whole)]...)
	}
	names := []string{seg.Name(2), seg.Name(1), seg.Name(3)}
	for n := range names {
		if got := seg.Numbers(names[:n]); len(got) != n {
			t.Errorf("%q: %d", names[:n], got)
		}
	}
	segments := [][]byte{putCloses(4), putCloses(5), putCloses(6)}
	for n := range segments {
		holdSeqs(t, segments[:n], []uint64{4, 5, 6}[:n]...)
	}
}

func TestNumbersChangesNothing(t *testing.T) {
	names := []string{seg.Name(3), "snap", seg.Name(1), seg.Name(3), "", seg.Name(2), seg.Name(0)}
	before := slices.Clone(names)
	for n := range len(names) + 1 {
		got := seg.Numbers(names[:n])
		_ = append(got, 7, 7, 7, 7, 7, 7, 7)
		if !slices.Equal(names, before) {
			t.Errorf("%q became %q", before, names)
		}
	}
	one, other := seg.Numbers(names), seg.Numbers(names)
	clear(other)
	if !slices.Equal(one, []uint64{0, 1, 2, 3}) {
		t.Errorf("%d, behind a change of another answer", one)
	}
}

func TestRecordsChangesNothing(t *testing.T) {
	torn := putCloses(6, 7)
	for _, b := range [][]byte{nil, {0}, putCloses(4, 5), torn[:len(torn)-1], slices.Concat(putCloses(4), boxOf([]byte("none"))), putCloses(4, 9)} {
		one, whole := roomy(b, putCloses(5, 6))
		before := slices.Clone(whole)
		l := [][]byte{one, putCloses(6), nil, one}
		header := slices.Clone(l)
		seg.Records(l[:2])
		seg.Records(l)
		if !bytes.Equal(whole, before) {
			t.Errorf("%x became %x", before, whole)
		}
		if !slices.EqualFunc(l, header, bytes.Equal) {
			t.Errorf("%x became %x", header, l)
		}
	}
}

func TestWhatRecordsAnswersIsSharedWithNobody(t *testing.T) {
	want := many(5, 10)
	b := put(want...)
	l := [][]byte{b}
	one, other := seg.Records(l), seg.Records(l)
	turn(b)
	clear(other)
	l[0] = nil
	if !slices.Equal(one, want) {
		t.Errorf("%+v, behind changes of other memory, not %+v", one, want)
	}
}

func TestWhatBoxAnswersIsSharedWithNobody(t *testing.T) {
	for _, r := range samples {
		one, _ := seg.Box(r)
		other, _ := seg.Box(r)
		turn(other)
		_ = append(other, "behind, and far behind"...)
		if !bytes.Equal(one, put(r)) {
			t.Errorf("%x, behind a change of another answer, not %x", one, put(r))
		}
	}
}
