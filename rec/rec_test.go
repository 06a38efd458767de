package rec_test

import (
	"bytes"
	"encoding/binary"
	"encoding/hex"
	"math"
	"regexp"
	"slices"
	"strings"
	"testing"

	"taximeter/api"
	"taximeter/rec"
)

const most = uint64(math.MaxUint64)

// The bits at the edges of what a price may be.
const (
	sign     = uint64(1) << 63
	quarter  = uint64(0x3fd0000000000000)
	one      = uint64(0x3ff0000000000000)
	greatest = uint64(0x7fefffffffffffff)
	infinite = uint64(0x7ff0000000000000)
)

// prices may be, without edges.
var prices = []uint64{0, 1, 2, 0x000fffffffffffff, 0x0010000000000000, quarter, one - 1, one, one + 1, math.Float64bits(0.1), math.Float64bits(1e300), greatest - 1, greatest}

// noPrices may not be, or have edges: minus zero, those below 0, those that are infinite or not a number.
var noPrices = []uint64{
	sign, sign | 1, sign | 2, sign | 0x0010000000000000, sign | quarter, sign | one, sign | greatest,
	infinite, sign | infinite,
	infinite + 1, infinite | 1<<51, infinite | 1<<51 | 1, sign - 1, sign | infinite | 1, sign | infinite | 1<<51, most,
}

var names = []string{"a", "z", "acme", "a-1", "a-", "a--9", "z0", "abcdefghijklmno", "abcdefghijklmnop", "a---------------", "z999999999999999"}

var noNames = []string{
	"", "-", "1", "0a", "-a", "A", "aB", "Acme", "a b", " a", "a ", "a.b", "a:b", "a_b", "a/b", "a\n", "a\x00", "\x00", "é", "aé", "\xff", "a\xff", "`a", "{", "a{", "a`",
	"abcdefghijklmnopq", "a----------------", strings.Repeat("a", 32), strings.Repeat("a", 255), strings.Repeat("a", 256), strings.Repeat("a", 257), strings.Repeat("a", 272), strings.Repeat("a", 1000), strings.Repeat("a", 1<<16),
}

// numbers of 64 bits: few, those around each power of 2, and the greatest.
var numbers = someNumbers()

// noKinds are of no record; many are the same as a kind in their lowest byte, or in more of them.
var noKinds = someNoKinds()

// kind is what the chapter says of one: its fields, and the least N.
type kind struct {
	kind            int
	lease, n, price bool
	least           uint64
}

var kinds = []kind{
	{kind: 1, n: true},
	{kind: 2, price: true},
	{kind: 3, lease: true, n: true, least: 1},
	{kind: 4, lease: true, n: true},
	{kind: 5},
}

// samples are a record of each kind.
var samples = []api.Record{
	{Seq: 1, Kind: api.RecCap, Tenant: "a", N: 5},
	{Seq: 2, Kind: api.RecPrice, Tenant: "acme", Bits: quarter},
	{Seq: 258, Kind: api.RecReserve, Tenant: "a-1", Lease: 3, N: 24},
	{Seq: 1 << 40, Kind: api.RecSettle, Tenant: "abcdefghijklmnop", Lease: 1 << 33, N: 7},
	{Seq: most, Kind: api.RecClose, Tenant: "b"},
}

var isTenant = regexp.MustCompile(`\A[a-z][a-z0-9-]{0,15}\z`)

// noise makes numbers of all bits, ever the same ones.
func noise() func() uint64 {
	x := uint64(88172645463325252)
	return func() uint64 {
		x ^= x << 13
		x ^= x >> 7
		x ^= x << 17
		return x * 2685821657736338717
	}
}

func someNumbers() []uint64 {
	next := noise()
	l := []uint64{0, 1, 2, 5, 24, 100, 0x0102030405060708, most - 1, most}
	for i := range 64 {
		l = append(l, 1<<i-1, 1<<i, 1<<i+1, next()>>i)
	}
	slices.Sort(l)
	return slices.Compact(l)
}

func someNoKinds() []int {
	l := []int{0, 6, 7, 8, 9, 100, 127, 128, 250, 255, math.MaxInt, math.MinInt}
	for k := range 7 {
		l = append(l, -k-1, math.MaxInt-k, math.MinInt+k, math.MaxInt-255+k)
		for shift := 8; shift < 63; shift++ {
			l = append(l, k+1<<shift, k-1<<shift)
		}
	}
	slices.Sort(l)
	return slices.Compact(l)
}

// kindOf is nil of what is no kind.
func kindOf(k int) *kind {
	for i := range kinds {
		if kinds[i].kind == k {
			return &kinds[i]
		}
	}
	return nil
}

// check is what the chapter says of a record, put down once more.
func check(r api.Record) api.Errno {
	k := kindOf(r.Kind)
	if k == nil {
		return api.ErrKind
	}
	if !isTenant.MatchString(r.Tenant) {
		return api.ErrName
	}
	if r.Seq == 0 || k.lease && r.Lease == 0 || k.n && r.N < k.least {
		return api.ErrRange
	}
	if f := math.Float64frombits(r.Bits); k.price && (math.IsNaN(f) || math.IsInf(f, 0) || math.Signbit(f)) {
		return api.ErrPrice
	}
	if !k.lease && r.Lease != 0 || !k.n && r.N != 0 || !k.price && r.Bits != 0 {
		return api.ErrForm
	}
	return api.OK
}

// lay is the bytes of a record of some kind, if its Tenant has at most 255; whether it may be is not asked.
func lay(r api.Record) []byte {
	k := kindOf(r.Kind)
	b := binary.LittleEndian.AppendUint64([]byte{byte(r.Kind)}, r.Seq)
	b = append(append(b, byte(len(r.Tenant))), r.Tenant...)
	if k.lease {
		b = binary.LittleEndian.AppendUint64(b, r.Lease)
	}
	if k.n {
		b = binary.LittleEndian.AppendUint64(b, r.N)
	}
	if k.price {
		b = binary.LittleEndian.AppendUint64(b, r.Bits)
	}
	return b
}

// read is the record of bytes, as the chapter says, by places in them.
func read(b []byte) (api.Record, api.Errno) {
	none := api.Record{}
	if len(b) == 0 {
		return none, api.ErrShort
	}
	k := kindOf(int(b[0]))
	if k == nil {
		return none, api.ErrKind
	}
	if len(b) < 10 {
		return none, api.ErrShort
	}
	if b[9] > api.MaxName {
		return none, api.ErrForm
	}
	at := 10 + int(b[9])
	end := at
	for _, has := range []bool{k.lease, k.n, k.price} {
		if has {
			end += 8
		}
	}
	if len(b) < end {
		return none, api.ErrShort
	}
	if len(b) > end {
		return none, api.ErrForm
	}
	r := api.Record{Seq: binary.LittleEndian.Uint64(b[1:]), Kind: k.kind, Tenant: string(b[10:at])}
	if k.lease {
		r.Lease = binary.LittleEndian.Uint64(b[at:])
	}
	if k.n {
		r.N = binary.LittleEndian.Uint64(b[end-8:])
	}
	if k.price {
		r.Bits = binary.LittleEndian.Uint64(b[end-8:])
	}
	if err := check(r); err != api.OK {
		return none, err
	}
	return r, api.OK
}

// holdRecord: the record may be, has those bytes, and comes back from them; or is refused, by Check as by Encode, with that error.
func holdRecord(t *testing.T, r api.Record, want api.Errno) {
	t.Helper()
	if err := rec.Check(r); err != want {
		t.Errorf("%+v: error %d, not %d", r, err, want)
	}
	b, err := rec.Encode(r)
	if err != want {
		t.Errorf("bytes of %+v: error %d, not %d", r, err, want)
	}
	if want != api.OK {
		if len(b) > 0 {
			t.Errorf("bytes of %+v, which may not be: %x", r, b)
		}
		return
	}
	if !bytes.Equal(b, lay(r)) {
		t.Errorf("bytes of %+v: %x, not %x", r, b, lay(r))
	}
	holdBytes(t, b, r, api.OK)
}

// holdLaid: the bytes of a record that may not be are refused with the same error, where they can be told at all.
func holdLaid(t *testing.T, r api.Record, want api.Errno) {
	t.Helper()
	holdBytes(t, lay(r), api.Record{}, want)
}

func holdBytes(t *testing.T, b []byte, want api.Record, wantErr api.Errno) {
	t.Helper()
	if got, err := rec.Decode(b); got != want || err != wantErr {
		t.Errorf("%x: %+v, error %d, not %+v, error %d", b, got, err, want, wantErr)
	}
}

func unhex(t *testing.T, s string) []byte {
	t.Helper()
	b, err := hex.DecodeString(strings.ReplaceAll(s, " ", ""))
	if err != nil {
		t.Fatal(err)
	}
	return b
}

// P11.1: Has

func TestHas(t *testing.T) {
	for _, x := range []struct {
		kind           int
		lease, n, bits bool
	}{
		{api.RecCap, false, true, false},
		{api.RecPrice, false, false, true},
		{api.RecReserve, true, true, false},
		{api.RecSettle, true, true, false},
		{api.RecClose, false, false, false},
	} {
		if lease, n, bits := rec.Has(x.kind); lease != x.lease || n != x.n || bits != x.bits {
			t.Errorf("kind %d has Lease %t, N %t, Bits %t", x.kind, lease, n, bits)
		}
	}
}

func TestWhatIsNoKindHasNothing(t *testing.T) {
	for _, k := range noKinds {
		if lease, n, bits := rec.Has(k); lease || n || bits {
			t.Errorf("kind %d has Lease %t, N %t, Bits %t", k, lease, n, bits)
		}
	}
}

// P11.1: Check (and, as it answers Check's error, Encode of P11.2)

func TestRecordsOfEachKind(t *testing.T) {
	for _, r := range samples {
		holdRecord(t, r, api.OK)
	}
}

func TestKindsThatAreNone(t *testing.T) {
	for _, k := range noKinds {
		holdRecord(t, api.Record{Kind: k}, api.ErrKind)
		for _, r := range samples {
			r.Kind = k
			holdRecord(t, r, api.ErrKind)
		}
		holdRecord(t, api.Record{Seq: 1, Kind: k, Tenant: "a"}, api.ErrKind)
	}
}

func TestEachSeq(t *testing.T) {
	for _, r := range samples {
		for _, n := range numbers {
			r.Seq = n
			if n == 0 {
				holdRecord(t, r, api.ErrRange)
				holdLaid(t, r, api.ErrRange)
				continue
			}
			holdRecord(t, r, api.OK)
		}
	}
}

func TestEachTenant(t *testing.T) {
	for _, r := range samples {
		for _, r.Tenant = range names {
			holdRecord(t, r, api.OK)
		}
		for _, r.Tenant = range noNames {
			holdRecord(t, r, api.ErrName)
			if len(r.Tenant) <= api.MaxName {
				holdLaid(t, r, api.ErrName)
			}
		}
	}
}

func TestEachByteOfATenant(t *testing.T) {
	for _, r := range samples {
		for c := range 256 {
			for _, around := range [][2]string{{"", ""}, {"", "a"}, {"a", ""}, {"ab", "cd"}, {"", "bcdefghijklmnop"}, {"abcdefghijklmno", ""}} {
				r.Tenant = around[0] + string([]byte{byte(c)}) + around[1]
				want := api.OK
				if !isTenant.MatchString(r.Tenant) {
					want = api.ErrName
					holdLaid(t, r, want)
				}
				holdRecord(t, r, want)
			}
		}
	}
}

// The first number is the Lease, the second one N.
func TestLeasesAndNs(t *testing.T) {
	const none, range0, form = api.OK, api.ErrRange, api.ErrForm
	for _, x := range []struct {
		lease, n uint64
		want     [5]api.Errno // of each kind
	}{
		{0, 0, [5]api.Errno{none, none, range0, range0, none}},
		{0, 1, [5]api.Errno{none, form, range0, range0, form}},
		{0, most, [5]api.Errno{none, form, range0, range0, form}},
		{1, 0, [5]api.Errno{form, form, range0, none, form}},
		{1, 1, [5]api.Errno{form, form, none, none, form}},
		{1, most, [5]api.Errno{form, form, none, none, form}},
		{most, 0, [5]api.Errno{form, form, range0, none, form}},
		{most, 1, [5]api.Errno{form, form, none, none, form}},
		{most, most, [5]api.Errno{form, form, none, none, form}},
	} {
		for i, want := range x.want {
			r := api.Record{Seq: 1, Kind: i + 1, Tenant: "a", Lease: x.lease, N: x.n}
			holdRecord(t, r, want)
			if want == api.ErrRange {
				holdLaid(t, r, want)
			}
		}
	}
}

func TestEachLeaseAndEachN(t *testing.T) {
	for _, n := range numbers {
		for _, k := range kinds {
			for _, r := range []api.Record{
				{Seq: 1, Kind: k.kind, Tenant: "a", Lease: n, N: 1},
				{Seq: 1, Kind: k.kind, Tenant: "a", Lease: 1, N: n},
				{Seq: 1, Kind: k.kind, Tenant: "a", Lease: n},
				{Seq: 1, Kind: k.kind, Tenant: "a", N: n},
				{Seq: n, Kind: k.kind, Tenant: "a", Lease: n, N: n},
			} {
				holdRecord(t, r, check(r))
			}
		}
	}
}

func TestEachPrice(t *testing.T) {
	r := api.Record{Seq: 1, Kind: api.RecPrice, Tenant: "a"}
	for _, r.Bits = range prices {
		holdRecord(t, r, api.OK)
	}
	for _, r.Bits = range noPrices {
		holdRecord(t, r, api.ErrPrice)
		holdLaid(t, r, api.ErrPrice)
	}
	for e := range uint64(4096) {
		for _, m := range []uint64{0, 1, 1 << 51, 1<<52 - 1} {
			r.Bits = e<<52 | m
			want := api.OK
			if e >= 2047 {
				want = api.ErrPrice
				holdLaid(t, r, want)
			}
			holdRecord(t, r, want)
		}
	}
}

func TestBitsAreOfAPriceAlone(t *testing.T) {
	for _, r := range samples {
		if r.Kind == api.RecPrice {
			continue
		}
		for _, bits := range slices.Concat(prices, noPrices, numbers) {
			want := api.ErrForm
			if bits == 0 {
				want = api.OK
			}
			r.Bits = bits
			holdRecord(t, r, want)
		}
	}
}

func TestFieldsOfAnotherKind(t *testing.T) {
	for _, n := range numbers[1:] {
		for _, r := range []api.Record{
			{Kind: api.RecCap, Lease: n},
			{Kind: api.RecCap, N: 5, Lease: n},
			{Kind: api.RecCap, N: 5, Bits: n},
			{Kind: api.RecCap, N: 5, Lease: n, Bits: n},
			{Kind: api.RecPrice, Bits: one, Lease: n},
			{Kind: api.RecPrice, Bits: one, N: n},
			{Kind: api.RecPrice, N: n},
			{Kind: api.RecPrice, Bits: one, Lease: n, N: n},
			{Kind: api.RecReserve, Lease: 3, N: 24, Bits: n},
			{Kind: api.RecSettle, Lease: 3, N: 24, Bits: n},
			{Kind: api.RecSettle, Lease: 3, Bits: n},
			{Kind: api.RecClose, Lease: n},
			{Kind: api.RecClose, N: n},
			{Kind: api.RecClose, Bits: n},
			{Kind: api.RecClose, Lease: n, N: n, Bits: n},
		} {
			r.Seq, r.Tenant = 7, "acme"
			holdRecord(t, r, api.ErrForm)
		}
	}
}

func TestWhichErrorOfARecordComesFirst(t *testing.T) {
	for _, x := range []struct {
		r    api.Record
		want api.Errno
	}{
		{api.Record{}, api.ErrKind},
		{api.Record{Kind: 6, Seq: 1}, api.ErrKind},
		{api.Record{Kind: 6, Tenant: "a"}, api.ErrKind},
		{api.Record{Kind: -1, Seq: 1, Tenant: "a", Lease: 1, N: 1, Bits: sign}, api.ErrKind},
		{api.Record{Kind: 1}, api.ErrName},
		{api.Record{Kind: 1, Tenant: "A"}, api.ErrName},
		{api.Record{Kind: 2, Seq: 1, Tenant: "A", Bits: sign}, api.ErrName},
		{api.Record{Kind: 3, Seq: 1, Tenant: "A", N: 1}, api.ErrName},
		{api.Record{Kind: 3, Seq: 1, Tenant: "A", Lease: 1}, api.ErrName},
		{api.Record{Kind: 5, Seq: 1, Tenant: "A", N: 1}, api.ErrName},
		{api.Record{Kind: 2, Tenant: "a", Bits: sign}, api.ErrRange},
		{api.Record{Kind: 2, Tenant: "a", Bits: infinite}, api.ErrRange},
		{api.Record{Kind: 1, Tenant: "a", Lease: 1}, api.ErrRange},
		{api.Record{Kind: 5, Tenant: "a", N: 1}, api.ErrRange},
		{api.Record{Kind: 5, Tenant: "a", Bits: sign}, api.ErrRange},
		{api.Record{Kind: 3, Seq: 1, Tenant: "a", N: 1, Bits: 1}, api.ErrRange},
		{api.Record{Kind: 3, Seq: 1, Tenant: "a", Lease: 1, Bits: 1}, api.ErrRange},
		{api.Record{Kind: 4, Seq: 1, Tenant: "a", N: 1, Bits: 1}, api.ErrRange},
		{api.Record{Kind: 2, Seq: 1, Tenant: "a", Bits: sign, N: 1}, api.ErrPrice},
		{api.Record{Kind: 2, Seq: 1, Tenant: "a", Bits: infinite, Lease: 1}, api.ErrPrice},
		{api.Record{Kind: 2, Seq: 1, Tenant: "a", Bits: most, Lease: 1, N: 1}, api.ErrPrice},
		{api.Record{Kind: 1, Seq: 1, Tenant: "a", Bits: sign}, api.ErrForm},
		{api.Record{Kind: 4, Seq: 1, Tenant: "a", Lease: 1, Bits: most}, api.ErrForm},
		{api.Record{Kind: 5, Seq: 1, Tenant: "a", Bits: infinite}, api.ErrForm},
	} {
		holdRecord(t, x.r, x.want)
	}
}

// someRecords are all of some of each field's numbers, with each of the others.
func someRecords(see func(api.Record)) {
	for _, k := range []int{-1, 0, 1, 2, 3, 4, 5, 6, 257, 1<<32 + 3} {
		for _, tenant := range []string{"a", "a-1", "abcdefghijklmnop", "", "A", "abcdefghijklmnopq"} {
			for _, seq := range []uint64{0, 1, 300, most} {
				for _, lease := range []uint64{0, 1, most} {
					for _, n := range []uint64{0, 1, most} {
						for _, bits := range []uint64{0, 1, one, greatest, infinite, sign, sign | one, most} {
							see(api.Record{Seq: seq, Kind: k, Tenant: tenant, Lease: lease, N: n, Bits: bits})
						}
					}
				}
			}
		}
	}
}

func TestEachRecordOfSomeFields(t *testing.T) {
	someRecords(func(r api.Record) {
		holdRecord(t, r, check(r))
	})
}

// P11.2: Encode

func TestExample(t *testing.T) {
	b, err := rec.Encode(api.Record{Seq: 1, Kind: api.RecCap, Tenant: "a", N: 5})
	if want := unhex(t, "01 0100000000000000 01 61 0500000000000000"); err != api.OK || !bytes.Equal(b, want) || len(b) != 19 {
		t.Errorf("%x, error %d", b, err)
	}
}

func TestBytesOfEachKind(t *testing.T) {
	for i, want := range []string{
		"01 0100000000000000 01 61 0500000000000000",
		"02 0200000000000000 04 61636d65 000000000000d03f",
		"03 0201000000000000 03 612d31 0300000000000000 1800000000000000",
		"04 0000000000010000 10 6162636465666768696a6b6c6d6e6f70 0000000002000000 0700000000000000",
		"05 ffffffffffffffff 01 62",
	} {
		b, err := rec.Encode(samples[i])
		if err != api.OK || !bytes.Equal(b, unhex(t, want)) {
			t.Errorf("%+v: %x, error %d, not %s", samples[i], b, err, want)
		}
		holdBytes(t, unhex(t, want), samples[i], api.OK)
	}
}

func TestEncodedBytesAreSharedWithNobody(t *testing.T) {
	for _, r := range samples {
		a, _ := rec.Encode(r)
		b, _ := rec.Encode(r)
		for i := range a {
			a[i] = ^a[i]
		}
		_ = append(a, "behind"...)
		if !bytes.Equal(b, lay(r)) {
			t.Errorf("%+v: %x, behind a change of other bytes", r, b)
		}
		if c, _ := rec.Encode(r); !bytes.Equal(c, b) {
			t.Errorf("%+v: %x, and then %x", r, b, c)
		}
	}
}

// P11.2: Decode

func TestNoBytes(t *testing.T) {
	holdBytes(t, nil, api.Record{}, api.ErrShort)
	holdBytes(t, []byte{}, api.Record{}, api.ErrShort)
	holdBytes(t, samplesBytes()[0][:0], api.Record{}, api.ErrShort)
}

func samplesBytes() [][]byte {
	var l [][]byte
	for _, r := range samples {
		l = append(l, lay(r))
	}
	return l
}

func TestBytesThatAreCutOff(t *testing.T) {
	for _, b := range samplesBytes() {
		for n := range b {
			holdBytes(t, b[:n], api.Record{}, api.ErrShort)
			holdBytes(t, slices.Clone(b[:n]), api.Record{}, api.ErrShort)
		}
	}
}

func TestBytesThatAreLeft(t *testing.T) {
	for _, b := range samplesBytes() {
		for c := range 256 {
			holdBytes(t, append(slices.Clone(b), byte(c)), api.Record{}, api.ErrForm)
		}
		for _, n := range []int{2, 7, 8, 9, 16, 255, 256, 1 << 16} {
			holdBytes(t, append(slices.Clone(b), make([]byte, n)...), api.Record{}, api.ErrForm)
		}
		for _, other := range samplesBytes() {
			holdBytes(t, slices.Concat(b, other), api.Record{}, api.ErrForm)
		}
	}
}

func TestAFirstByteThatIsNoKind(t *testing.T) {
	for first := range 256 {
		want := api.ErrKind
		if kindOf(first) != nil {
			want = api.ErrShort
		}
		holdBytes(t, []byte{byte(first)}, api.Record{}, want)
		if want == api.ErrShort {
			continue
		}
		for _, b := range samplesBytes() {
			b[0] = byte(first)
			for n := range b {
				holdBytes(t, b[:n+1], api.Record{}, want)
			}
			holdBytes(t, append(b, 0), api.Record{}, want)
		}
		for _, behind := range [][]byte{{0}, {1, 2, 3}, make([]byte, 8), make([]byte, 9), make([]byte, 100), bytes.Repeat([]byte{255}, 9), bytes.Repeat([]byte{255}, 100)} {
			holdBytes(t, append([]byte{byte(first)}, behind...), api.Record{}, want)
		}
	}
}

// A kind of other fields reads the same bytes as too few, or leaves some.
func TestAnotherKindsBytes(t *testing.T) {
	for _, b := range samplesBytes() {
		for _, k := range kinds {
			b[0] = byte(k.kind)
			want, err := read(b)
			holdBytes(t, b, want, err)
		}
	}
	reserve := lay(samples[2])
	for i, want := range []api.Errno{api.ErrForm, api.ErrForm, api.OK, api.OK, api.ErrForm} {
		reserve[0] = byte(i + 1)
		if _, err := rec.Decode(reserve); err != want {
			t.Errorf("a reserve's bytes as kind %d: error %d, not %d", i+1, err, want)
		}
	}
	limit := lay(samples[0])
	for i, want := range []api.Errno{api.OK, api.OK, api.ErrShort, api.ErrShort, api.ErrForm} {
		limit[0] = byte(i + 1)
		if _, err := rec.Decode(limit); err != want {
			t.Errorf("a cap's bytes as kind %d: error %d, not %d", i+1, err, want)
		}
	}
}

// The length says n; behind it there are so many a, and then the fields, or some of their bytes.
func TestLengthsOfATenant(t *testing.T) {
	for _, k := range kinds {
		fields := lay(api.Record{Seq: 1, Kind: k.kind, Tenant: "a", Lease: 1, N: 1, Bits: 1})[11:]
		for n := range 256 {
			head := append([]byte{byte(k.kind), 1, 0, 0, 0, 0, 0, 0, 0}, byte(n))
			whole := slices.Concat(head, bytes.Repeat([]byte("a"), n), fields)
			for cut := range min(len(fields)+n, 60) + 1 {
				b := whole[:len(whole)-cut]
				var want api.Record
				err := api.OK
				switch {
				case n > api.MaxName:
					err = api.ErrForm
				case cut > 0:
					err = api.ErrShort
				case n == 0:
					err = api.ErrName
				default:
					want, _ = read(b)
				}
				holdBytes(t, b, want, err)
			}
			holdBytes(t, head, api.Record{}, lengthAlone(k, n))
		}
	}
}

// lengthAlone is what a length is answered behind which there is nothing.
func lengthAlone(k kind, n int) api.Errno {
	switch {
	case n > api.MaxName:
		return api.ErrForm
	case n == 0 && !k.lease && !k.n && !k.price:
		return api.ErrName
	}
	return api.ErrShort
}

func TestLengthsThatSayMoreThanThereIs(t *testing.T) {
	for _, r := range samples {
		b := lay(r)
		for n := len(r.Tenant) + 1; n < 256; n++ {
			b[9] = byte(n)
			want := api.ErrShort
			if n > api.MaxName {
				want = api.ErrForm
			}
			holdBytes(t, b, api.Record{}, want)
		}
		for n := range len(r.Tenant) {
			b[9] = byte(n)
			holdBytes(t, b, api.Record{}, api.ErrForm)
		}
	}
}

func TestWhichErrorOfBytesComesFirst(t *testing.T) {
	for _, x := range []struct {
		b    string
		want api.Errno
	}{
		{"00", api.ErrKind},
		{"06", api.ErrKind},
		{"06 0000000000000000 11", api.ErrKind},
		{"01 0000000000000000 11", api.ErrForm},                                       // the length, and short, and a Seq of 0
		{"01 0000000000000000 ff 61", api.ErrForm},                                    // so, too
		{"01 0000000000000000 02 41", api.ErrShort},                                   // short, and a name that is none, and a Seq of 0
		{"01 0000000000000000 01 41 05000000000000", api.ErrShort},                    // so, too
		{"01 0000000000000000 00", api.ErrShort},                                      // short, and no name
		{"01 0000000000000000 01 41 0500000000000000 00", api.ErrForm},                // a byte that is left, and the name, and the Seq
		{"02 0000000000000000 01 61 0000000000000080 00", api.ErrForm},                // a byte that is left, and the Seq, and the price
		{"02 0100000000000000 01 61 0000000000000080 00", api.ErrForm},                // a byte that is left, and the price
		{"05 0000000000000000 00 00", api.ErrForm},                                    // a byte that is left, and the name, and the Seq
		{"05 0000000000000000 00", api.ErrName},                                       // the name, and the Seq
		{"01 0000000000000000 01 41 0500000000000000", api.ErrName},                   // so, too
		{"02 0100000000000000 01 41 0000000000000080", api.ErrName},                   // the name, and the price
		{"03 0100000000000000 01 41 0000000000000000 0100000000000000", api.ErrName},  // the name, and the Lease
		{"03 0100000000000000 01 41 0100000000000000 0000000000000000", api.ErrName},  // the name, and N
		{"02 0000000000000000 01 61 0000000000000080", api.ErrRange},                  // the Seq, and the price
		{"02 0000000000000000 01 61 000000000000f07f", api.ErrRange},                  // so, too
		{"03 0100000000000000 01 61 0000000000000000 0100000000000000", api.ErrRange}, // the Lease
		{"03 0100000000000000 01 61 0100000000000000 0000000000000000", api.ErrRange}, // N
		{"04 0100000000000000 01 61 0000000000000000 0100000000000000", api.ErrRange}, // the Lease
		{"02 0100000000000000 01 61 0000000000000080", api.ErrPrice},                  // minus zero
		{"02 0100000000000000 01 61 000000000000f87f", api.ErrPrice},                  // not a number
		{"04 0100000000000000 01 61 0100000000000000 0000000000000000", api.OK},       // what was settled may be 0
		{"01 0100000000000000 01 61 0000000000000000", api.OK},                        // a cap, too
		{"02 0100000000000000 01 61 0000000000000000", api.OK},                        // and a price
		{"03 0100000000000000 10 61616161616161616161616161616161 0100000000000000 0100000000000000", api.OK},
		{"03 0100000000000000 11 6161616161616161616161616161616161 0100000000000000 0100000000000000", api.ErrForm},
	} {
		b := unhex(t, x.b)
		got, err := rec.Decode(b)
		if err != x.want || err != api.OK && got != (api.Record{}) {
			t.Errorf("%s: %+v, error %d, not %d", x.b, got, err, x.want)
		}
	}
}

func TestFewBytes(t *testing.T) {
	hold := func(b []byte) {
		want, err := read(b)
		holdBytes(t, b, want, err)
	}
	for first := range 256 {
		hold([]byte{byte(first)})
		for second := range 256 {
			hold([]byte{byte(first), byte(second)})
		}
	}
}

// Each byte of each sample's bytes becomes each other one, behind which there is less, as much, or more.
func TestEachByteChanged(t *testing.T) {
	for _, b := range samplesBytes() {
		for i := range b {
			for c := range 256 {
				changed := append(slices.Clone(b), 0)
				changed[i] = byte(c)
				for _, l := range [][]byte{changed[:len(b)-1], changed[:len(b)], changed} {
					want, err := read(l)
					holdBytes(t, l, want, err)
				}
			}
		}
	}
}

func TestBytesOfEachRecordOfSomeFields(t *testing.T) {
	someRecords(func(r api.Record) {
		if kindOf(r.Kind) == nil {
			return
		}
		b := lay(r)
		want, err := read(b)
		holdBytes(t, b, want, err)
	})
}

func TestManyBytes(t *testing.T) {
	next := noise()
	for range 200000 {
		b := make([]byte, next()%48)
		for i := range b {
			b[i] = byte(next() >> 56)
		}
		if len(b) > 0 {
			b[0] = byte(next() >> 32 % 7) // mostly a kind
		}
		if len(b) > 9 {
			b[9] = byte(next() >> 32 % 19)
			for i := 10; i < min(len(b), 10+int(b[9])); i++ {
				b[i] = 'a' + b[i]%16
			}
		}
		want, err := read(b)
		holdBytes(t, b, want, err)
	}
}

func TestDecodedRecordsShareNothing(t *testing.T) {
	for _, r := range samples {
		b := append(make([]byte, 0, 200), lay(r)...)
		room := b[:cap(b)]
		copy(room[len(b):], bytes.Repeat([]byte{7}, 200))
		before := slices.Clone(room)
		got, err := rec.Decode(b)
		if err != api.OK || got != r {
			t.Fatalf("%x: %+v, error %d", b, got, err)
		}
		if !bytes.Equal(room, before) {
			t.Errorf("%x became %x", before, room)
		}
		for i := range room {
			room[i] = ^room[i]
		}
		if got != r {
			t.Errorf("%+v became %+v, when its bytes were changed", r, got)
		}
	}
}

func TestBytesThatAreRefusedStayAsTheyAre(t *testing.T) {
	for _, b := range samplesBytes() {
		for _, l := range [][]byte{b[:len(b)-1], append(slices.Clone(b), 9), append([]byte{0}, b...)} {
			before := slices.Clone(l)
			if got, err := rec.Decode(l); err == api.OK || got != (api.Record{}) {
				t.Errorf("%x: %+v, error %d", l, got, err)
			}
			if !bytes.Equal(l, before) {
				t.Errorf("%x became %x", before, l)
			}
		}
	}
}

// P11.3

func TestAllRecordsComeBack(t *testing.T) {
	come := 0
	someRecords(func(r api.Record) {
		b, err := rec.Encode(r)
		if err != api.OK {
			return
		}
		come++
		if got, err := rec.Decode(b); got != r || err != api.OK {
			t.Errorf("%+v came back as %+v, error %d", r, got, err)
		}
	})
	// Of 3 tenants and 3 Seqs: caps of 3 Ns, prices of 4, reserves of 2 Leases and 2 Ns, settles of 2 and 3, closes.
	if come != 9*(3+4+2*2+2*3+1) {
		t.Errorf("%d records may be", come)
	}
}

func TestManyRecordsComeBack(t *testing.T) {
	next := noise()
	number := func() uint64 { return max(next()>>(next()%64), 1) }
	for range 100000 {
		k := kinds[next()>>32%5]
		r := api.Record{Seq: number(), Kind: k.kind, Tenant: names[next()>>32%uint64(len(names))]}
		if k.lease {
			r.Lease = number()
		}
		if k.n {
			r.N = number()
		}
		if k.price {
			r.Bits = next() % infinite
		}
		holdRecord(t, r, api.OK)
	}
}

// Bytes that a record has are those that it gets, so that no two lists of bytes are one record's.
func TestBytesComeBackFromTheirRecords(t *testing.T) {
	for _, b := range samplesBytes() {
		for i := range b {
			for c := range 256 {
				changed := slices.Clone(b)
				changed[i] = byte(c)
				r, err := rec.Decode(changed)
				if err != api.OK {
					continue
				}
				if got, err := rec.Encode(r); err != api.OK || !bytes.Equal(got, changed) {
					t.Errorf("%x came back as %x, error %d", changed, got, err)
				}
			}
		}
	}
}
