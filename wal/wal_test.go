package wal_test

import (
	"bytes"
	"encoding/binary"
	"fmt"
	"hash/crc32"
	"maps"
	"math"
	"slices"
	"strings"
	"testing"

	"taximeter/api"
	"taximeter/disk"
	"taximeter/rec"
	"taximeter/seg"
	"taximeter/wal"
)

const most = uint64(math.MaxUint64)

// Bits of prices: one that may be, and two that may not.
const (
	quarter   = uint64(0x3fd0000000000000)
	minusZero = uint64(1) << 63
	infinite  = uint64(0x7ff0000000000000)
)

// noise makes numbers of all bits, ever the same ones.
func noise() func() uint64 {
	x := uint64(88172645463325252)
	return func() uint64 {
		x ^= x << 13
		x ^= x >> 7
		x ^= x << 17
		return x * 2685821657736338717
	}
}

// samples are a record of each kind.
var samples = []api.Record{
	{Kind: api.RecCap, Tenant: "a", N: 5},
	{Kind: api.RecPrice, Tenant: "acme", Bits: quarter},
	{Kind: api.RecReserve, Tenant: "a-1", Lease: 3, N: 24},
	{Kind: api.RecSettle, Tenant: "abcdefghijklmnop", Lease: 1 << 33, N: 7},
	{Kind: api.RecClose, Tenant: "b"},
}

// wrong is a record that may not be, and what is told of it, with a number that may be.
type wrong struct {
	r   api.Record
	err api.Errno
}

var wrongs = []wrong{
	{api.Record{}, api.ErrKind},
	{api.Record{Tenant: "a"}, api.ErrKind},
	{api.Record{Kind: 6, Tenant: "a"}, api.ErrKind},
	{api.Record{Kind: -1, Tenant: "A", Lease: 7, N: 7, Bits: infinite}, api.ErrKind},
	{api.Record{Kind: 257, Tenant: "a", N: 5}, api.ErrKind},
	{api.Record{Kind: api.RecCap}, api.ErrName},
	{api.Record{Kind: api.RecClose, Tenant: "A"}, api.ErrName},
	{api.Record{Kind: api.RecClose, Tenant: "abcdefghijklmnopq"}, api.ErrName},
	{api.Record{Kind: api.RecClose, Tenant: strings.Repeat("a", api.MaxBody+1)}, api.ErrName},
	{api.Record{Kind: api.RecReserve, Tenant: "a b", Bits: 1}, api.ErrName},
	{api.Record{Kind: api.RecReserve, Tenant: "a", N: 5}, api.ErrRange},
	{api.Record{Kind: api.RecReserve, Tenant: "a", Lease: 5}, api.ErrRange},
	{api.Record{Kind: api.RecSettle, Tenant: "a", N: 5, Bits: 1}, api.ErrRange},
	{api.Record{Kind: api.RecPrice, Tenant: "a", Bits: minusZero}, api.ErrPrice},
	{api.Record{Kind: api.RecPrice, Tenant: "a", N: 5, Bits: infinite}, api.ErrPrice},
	{api.Record{Kind: api.RecCap, Tenant: "a", Lease: 1, N: 5}, api.ErrForm},
	{api.Record{Kind: api.RecPrice, Tenant: "a", N: 1, Bits: quarter}, api.ErrForm},
	{api.Record{Kind: api.RecClose, Tenant: "a", N: 1}, api.ErrForm},
}

// lay is the bytes of a record, as chapter 11 says; whether it may be is not asked.
func lay(r api.Record) []byte {
	b := binary.LittleEndian.AppendUint64([]byte{byte(r.Kind)}, r.Seq)
	b = append(append(b, byte(len(r.Tenant))), r.Tenant...)
	switch r.Kind {
	case api.RecCap:
		b = binary.LittleEndian.AppendUint64(b, r.N)
	case api.RecPrice:
		b = binary.LittleEndian.AppendUint64(b, r.Bits)
	case api.RecReserve, api.RecSettle:
		b = binary.LittleEndian.AppendUint64(b, r.Lease)
		b = binary.LittleEndian.AppendUint64(b, r.N)
	}
	return b
}

var castagnoli = crc32.MakeTable(crc32.Castagnoli)

// boxOf is a box of bytes, as chapter 12 says, with the library's sum.
func boxOf(body []byte) []byte {
	b := append(binary.LittleEndian.AppendUint16(nil, uint16(len(body))), body...)
	return binary.LittleEndian.AppendUint32(b, crc32.Checksum(b, castagnoli))
}

// boxes of records, one behind the other.
func boxes(l ...api.Record) []byte {
	var b []byte
	for _, r := range l {
		b = append(b, boxOf(lay(r))...)
	}
	return b
}

// file is a segment's name, as chapter 13 says.
func file(n uint64) string {
	return fmt.Sprintf("w%016x", n)
}

// numbered is the record of a number: of one kind or another, as the number says.
func numbered(n uint64) api.Record {
	r := samples[(n-1)%uint64(len(samples))]
	r.Seq = n
	return r
}

// many are n records of all kinds, from a number on.
func many(first uint64, n int) []api.Record {
	var l []api.Record
	for i := range n {
		l = append(l, numbered(first+uint64(i)))
	}
	return l
}

// wide is a record whose box has so many bytes, from 25 on, up to 40.
func wide(size int) api.Record {
	return api.Record{Kind: api.RecCap, Tenant: strings.Repeat("a", size-24), N: 1}
}

// told is a disk's files as a text: of each its name, its sure bytes, and the others behind a bar.
func told(l []api.File) string {
	var s []string
	for _, f := range l {
		s = append(s, fmt.Sprintf("%s=%x|%x", f.Name, f.Data[:f.Sure], f.Data[f.Sure:]))
	}
	return strings.Join(s, " ")
}

// of is a disk on which these segments lie, sure, from the number 1 on.
func of(t *testing.T, segments ...[]byte) *disk.Disk {
	t.Helper()
	d := disk.New(1 << 20)
	for i, b := range segments {
		lie(t, d, file(uint64(i+1)), b)
	}
	return d
}

func lie(t *testing.T, d *disk.Disk, name string, b []byte) {
	t.Helper()
	if err := d.Append(name, b); err != api.OK {
		t.Fatalf("%s: error %d", name, err)
	}
	d.Sync(name)
}

// opened is the journal of a disk, from the number 1 on if it has no records.
func opened(t *testing.T, d *disk.Disk) *wal.Log {
	t.Helper()
	l, _, err := wal.Open(d, 1)
	if l == nil || err != api.OK {
		t.Fatalf("open: error %d", err)
	}
	return l
}

// holdOpen: the disk's journal has these records, it goes on with that number, and the disk is as it was.
func holdOpen(t *testing.T, d *disk.Disk, next uint64, want []api.Record, goesOn uint64) {
	t.Helper()
	files, calls := told(d.Files()), d.Calls()
	l, got, err := wal.Open(d, next)
	if l == nil || err != api.OK || !slices.Equal(got, want) {
		t.Fatalf("open with %d: %+v, error %d, not %+v", next, got, err, want)
	}
	holdLog(t, l, goesOn, goesOn-1, 0)
	if told(d.Files()) != files || d.Calls() != calls || d.Down() {
		t.Fatalf("%s became %s, by %d calls", files, told(d.Files()), d.Calls()-calls)
	}
}

func holdNoOpen(t *testing.T, d *disk.Disk, next uint64, want api.Errno) {
	t.Helper()
	l, got, err := wal.Open(d, next)
	if l != nil || len(got) > 0 || err != want {
		t.Fatalf("open with %d: %v, %+v, error %d, not error %d", next, l, got, err, want)
	}
}

func holdLog(t *testing.T, l *wal.Log, next, sure uint64, waits int) {
	t.Helper()
	if l.Next() != next || l.Sure() != sure || l.Waits() != waits {
		t.Fatalf("next %d, sure %d, %d wait, not %d, %d, %d", l.Next(), l.Sure(), l.Waits(), next, sure, waits)
	}
}

func holdPut(t *testing.T, l *wal.Log, r api.Record, want uint64) {
	t.Helper()
	if n, err := l.Put(r); n != want || err != api.OK {
		t.Fatalf("put %+v: %d, error %d, not %d", r, n, err, want)
	}
}

func holdNoPut(t *testing.T, l *wal.Log, r api.Record, want api.Errno) {
	t.Helper()
	next, sure, waits := l.Next(), l.Sure(), l.Waits()
	if n, err := l.Put(r); n != 0 || err != want {
		t.Fatalf("put %+v: %d, error %d, not error %d", r, n, err, want)
	}
	holdLog(t, l, next, sure, waits)
}

func putAll(t *testing.T, l *wal.Log, records ...api.Record) {
	t.Helper()
	for _, r := range records {
		holdPut(t, l, r, l.Next())
	}
}

func holdCommit(t *testing.T, l *wal.Log, want api.Errno) {
	t.Helper()
	next, sure, waits := l.Next(), l.Sure(), l.Waits()
	if err := l.Commit(); err != want {
		t.Fatalf("commit: error %d, not %d", err, want)
	}
	if want == api.OK {
		sure, waits = next-1, 0
	}
	holdLog(t, l, next, sure, waits)
}

// holdFiles: each of these files is there, whole and sure, and no other one; told by names and bytes in turn.
func holdFiles(t *testing.T, d *disk.Disk, want map[string][]byte) {
	t.Helper()
	var l []api.File
	for _, name := range slices.Sorted(maps.Keys(want)) {
		l = append(l, api.File{Name: name, Data: want[name], Sure: len(want[name])})
	}
	if got := told(d.Files()); got != told(l) {
		t.Fatalf("files: %s, not %s", got, told(l))
	}
}

// holdNumbers: the disk has the segments of these numbers.
func holdNumbers(t *testing.T, d *disk.Disk, want ...uint64) {
	t.Helper()
	if got := seg.Numbers(d.List()); !slices.Equal(got, want) {
		t.Fatalf("segments %d, not %d", got, want)
	}
}

// P14.1: Open

func TestExample(t *testing.T) {
	d := disk.New(1000)
	l := opened(t, d)
	putAll(t, l, samples[0], samples[1])
	if d.Calls() != 0 {
		t.Fatalf("%d calls by what is put", d.Calls())
	}
	holdCommit(t, l, api.OK)
	if d.Calls() != 2 {
		t.Fatalf("%d calls, not an Append and a Sync", d.Calls())
	}
	holdFiles(t, d, map[string][]byte{file(1): boxes(many(1, 2)...)})
}

func TestOpenWithoutADisk(t *testing.T) {
	for _, next := range []uint64{0, 1, 7, most} {
		holdNoOpen(t, nil, next, api.ErrNone)
	}
}

func TestOpenOfADiskThatIsDown(t *testing.T) {
	empty, full, other := of(t), of(t, boxes(many(1, 3)...), boxes(many(4, 3)...)), disk.New(10)
	lie(t, other, "snap", []byte("a"))
	for _, d := range []*disk.Disk{empty, full, other} {
		d.Crash(0)
		for _, next := range []uint64{0, 1, 7, most} {
			holdNoOpen(t, d, next, api.ErrCrash)
		}
		d.Up()
	}
	holdOpen(t, empty, 3, nil, 3)
	holdOpen(t, full, 3, many(1, 6), 7)
	holdOpen(t, other, 3, nil, 3)
}

func TestOpenOfAnArmedDisk(t *testing.T) {
	d := of(t, boxes(many(1, 3)...))
	d.Arm(0, 0)
	holdOpen(t, d, 1, many(1, 3), 4)
}

func TestOpenWithoutRecords(t *testing.T) {
	other := disk.New(1000)
	lie(t, other, "snap", boxes(many(1, 3)...))
	lie(t, other, "w1", boxes(many(1, 1)...))
	for _, d := range []*disk.Disk{disk.New(0), of(t), of(t, nil, nil), of(t, []byte("no record"), boxOf([]byte("none")), boxes(many(1, 1)...)[:20]), other} {
		holdOpen(t, d, 0, nil, 1)
		holdOpen(t, d, 1, nil, 1)
		holdOpen(t, d, 2, nil, 2)
		holdOpen(t, d, 1<<40, nil, 1<<40)
		holdOpen(t, d, most-1, nil, most-1)
		holdOpen(t, d, most, nil, most)
	}
}

// What is told to Open counts for nothing if there are records.
func TestOpenWithRecords(t *testing.T) {
	for _, first := range []uint64{1, 2, 300, most - 10} {
		l := many(first, 9)
		for _, d := range []*disk.Disk{of(t, boxes(l...)), of(t, nil, boxes(l[:4]...), nil, boxes(l[4:]...), nil), of(t, boxes(l[:1]...), boxes(l[1:2]...), boxes(l[2:]...))} {
			for _, next := range []uint64{0, 1, first, first + 9, first + 20, most} {
				holdOpen(t, d, next, l, first+9)
			}
		}
	}
	for _, r := range samples {
		r.Seq = 77
		holdOpen(t, of(t, boxes(r)), 5, []api.Record{r}, 78)
	}
}

func TestOpenGoesByTheSegmentsNumbers(t *testing.T) {
	l := many(1, 12)
	d := disk.New(1000)
	for i, n := range []uint64{16, 2, 1 << 40, 9, most, 10} {
		at := slices.Index([]uint64{2, 9, 10, 16, 1 << 40, most}, n)
		lie(t, d, file(n), boxes(l[2*at:2*at+2]...))
		lie(t, d, fmt.Sprintf("x%016x", i), boxes(l[2*at:2*at+2]...))
	}
	lie(t, d, "w1", boxes(many(13, 1)...))
	lie(t, d, "v0000000000000001", boxes(many(90, 1)...))
	holdOpen(t, d, 1, l, 13)
}

func TestOpenOfTornSegments(t *testing.T) {
	l := many(5, 6)
	b := boxes(l[:3]...)
	last := len(boxes(l[2]))
	for n := 1; n < last; n++ {
		holdOpen(t, of(t, b[:len(b)-n]), 1, l[:2], 7)
		holdOpen(t, of(t, b[:len(b)-n], boxes(l[2:]...)), 1, l, 11)
		holdOpen(t, of(t, b[:len(b)-n], nil, boxes(l[3:]...), boxes(l[2:]...)), 1, l, 11)
	}
	holdOpen(t, of(t, boxes(l...), boxes(l...), boxes(l[4:]...)), 1, l, 11)
	holdOpen(t, of(t, boxes(l[:2]...), boxes(l[3:]...)), 1, l[:2], 7)
}

func TestWhatIsNotSureIsThereAtOpen(t *testing.T) {
	d := disk.New(1000)
	d.Append(file(1), boxes(many(1, 3)...))
	holdOpen(t, d, 1, many(1, 3), 4)
}

// P14.1: Put, Next, Sure, Waits

func TestPutCountsOn(t *testing.T) {
	for _, next := range []uint64{0, 1, 2, 300, 1 << 40} {
		d := disk.New(1000)
		l, _, _ := wal.Open(d, next)
		first := max(next, 1)
		holdLog(t, l, first, first-1, 0)
		for i := range uint64(20) {
			r := numbered(first + i)
			r.Seq = []uint64{0, 1, 999, most, first + i}[i%5]
			holdPut(t, l, r, first+i)
			holdLog(t, l, first+i+1, first-1, int(i)+1)
		}
		if d.Calls() != 0 || len(d.List()) > 0 {
			t.Fatalf("%d calls, files %q, without a commit", d.Calls(), d.List())
		}
		holdCommit(t, l, api.OK)
		holdOpen(t, d, 1, many(first, 20), first+20)
	}
}

func TestPutOfWhatIsNoRecord(t *testing.T) {
	d := disk.New(1000)
	l := opened(t, d)
	for _, x := range wrongs {
		for _, x.r.Seq = range []uint64{0, 1, 7, most} {
			holdNoPut(t, l, x.r, x.err)
		}
		x.r.Seq = 1
		if err := rec.Check(x.r); err != x.err {
			t.Fatalf("%+v: layer 11 tells error %d, not %d", x.r, err, x.err)
		}
	}
	holdCommit(t, l, api.OK)
	if d.Calls() != 0 {
		t.Fatalf("%d calls", d.Calls())
	}
	for i, x := range wrongs {
		holdPut(t, l, samples[i%5], uint64(i+1))
		holdNoPut(t, l, x.r, x.err)
	}
	holdCommit(t, l, api.OK)
	holdOpen(t, d, 1, many(1, len(wrongs)), uint64(len(wrongs))+1)
}

// The greatest number is given once; behind it the next one is 0, which layer 11 refuses.
func TestPutBehindTheGreatestNumber(t *testing.T) {
	d := disk.New(1000)
	l, _, _ := wal.Open(d, most-1)
	holdLog(t, l, most-1, most-2, 0)
	holdPut(t, l, numbered(most-1), most-1)
	holdPut(t, l, numbered(most), most)
	holdLog(t, l, 0, most-2, 2)
	holdNoPut(t, l, samples[2], api.ErrRange)
	holdNoPut(t, l, api.Record{Kind: 9}, api.ErrKind)
	holdCommit(t, l, api.OK)
	holdLog(t, l, 0, most, 0)
	holdNoPut(t, l, samples[2], api.ErrRange)
	holdOpen(t, d, 1, many(most-1, 2), 0)
	l = opened(t, d)
	holdLog(t, l, 0, most, 0)
	holdNoPut(t, l, samples[0], api.ErrRange)
	holdNoPut(t, l, api.Record{Kind: api.RecClose, Tenant: "A"}, api.ErrName)
	holdNoPut(t, l, api.Record{Kind: api.RecCap, Tenant: "a", Bits: 1}, api.ErrRange)
	holdCommit(t, l, api.OK)
}

// A record is buffered whatever the disk is like.
func TestPutOnADiskThatIsDown(t *testing.T) {
	d := disk.New(1000)
	l := opened(t, d)
	d.Crash(0)
	putAll(t, l, samples...)
	holdNoPut(t, l, api.Record{}, api.ErrKind)
	holdCommit(t, l, api.ErrCrash)
	d.Up()
	holdCommit(t, l, api.OK)
	holdOpen(t, d, 1, many(1, 5), 6)
}

func TestSureGoesByCommits(t *testing.T) {
	d := of(t, boxes(many(40, 3)...))
	l := opened(t, d)
	holdLog(t, l, 43, 42, 0)
	putAll(t, l, samples...)
	holdLog(t, l, 48, 42, 5)
	holdCommit(t, l, api.OK)
	holdLog(t, l, 48, 47, 0)
	putAll(t, l, samples[0])
	holdLog(t, l, 49, 47, 1)
	holdCommit(t, l, api.OK)
	holdLog(t, l, 49, 48, 0)
	holdCommit(t, l, api.OK)
	holdLog(t, l, 49, 48, 0)
}

// P14.2: Commit

func TestACommitOfNothing(t *testing.T) {
	d := disk.New(0)
	l := opened(t, d)
	holdCommit(t, l, api.OK)
	d.Arm(0, 0)
	holdCommit(t, l, api.OK)
	if d.Calls() != 0 || d.Down() || len(d.List()) > 0 {
		t.Fatalf("%d calls, down: %v, files %q", d.Calls(), d.Down(), d.List())
	}
	d.Crash(0)
	holdCommit(t, l, api.OK)
}

// One Append and one Sync, however many records there are, and all of them in one segment.
func TestACommitIsTwoCalls(t *testing.T) {
	for _, n := range []int{1, 2, 3, 10, 100, 1000} {
		d := disk.New(1 << 20)
		l := opened(t, d)
		putAll(t, l, many(1, n)...)
		holdCommit(t, l, api.OK)
		if d.Calls() != 2 {
			t.Fatalf("%d calls for %d records", d.Calls(), n)
		}
		holdFiles(t, d, map[string][]byte{file(1): boxes(many(1, n)...)})
	}
}

// A disk that does two calls yet does a commit whole.
func TestACommitOnAnArmedDisk(t *testing.T) {
	d := disk.New(1000)
	l := opened(t, d)
	putAll(t, l, samples...)
	d.Arm(2, 0)
	holdCommit(t, l, api.OK)
	d.Sync("a")
	if !d.Down() {
		t.Fatal("a third call is done")
	}
	holdFiles(t, d, map[string][]byte{file(1): boxes(many(1, 5)...)})
}

func TestTheFirstSegmentIsBehindAllThereAre(t *testing.T) {
	for _, x := range []struct {
		there []uint64
		want  uint64
	}{
		{nil, 1},
		{[]uint64{0}, 1},
		{[]uint64{1}, 2},
		{[]uint64{7}, 8},
		{[]uint64{9, 3}, 10},
		{[]uint64{15, 255, 16}, 256},
		{[]uint64{1 << 63}, 1<<63 + 1},
		{[]uint64{most - 1}, most},
	} {
		for _, b := range [][]byte{nil, []byte("torn"), boxes(many(1, 1)...)} {
			d := disk.New(1000)
			want := map[string][]byte{"wffffffffffffffff0": {1}, "snap": {2}, "w9": {3}}
			for _, n := range x.there {
				want[file(n)] = b
			}
			for name, b := range want {
				lie(t, d, name, b)
			}
			l := opened(t, d)
			r := samples[0]
			r.Seq = l.Next()
			putAll(t, l, r)
			holdFiles(t, d, want)
			holdCommit(t, l, api.OK)
			want[file(x.want)] = boxes(r)
			holdFiles(t, d, want)
		}
	}
}

// A segment is left behind the commit by which it has 256 bytes, or more.
func TestASegmentIsLeftWhenItIsBigEnough(t *testing.T) {
	for _, x := range []struct {
		sizes []int
		full  bool
	}{
		{[]int{32, 32, 32, 32, 32, 32, 32, 30}, false},
		{[]int{32, 32, 32, 32, 32, 32, 32, 31}, false},
		{[]int{32, 32, 32, 32, 32, 32, 32, 32}, true},
		{[]int{32, 32, 32, 32, 32, 32, 32, 33}, true},
		{[]int{32, 32, 32, 32, 32, 32, 32, 40}, true},
		{[]int{40, 40, 40, 40, 40, 40, 40}, true},
		{[]int{40, 40, 40, 40, 40, 40}, false},
		{[]int{25}, false},
	} {
		for _, atOnce := range []bool{true, false} {
			d := disk.New(1 << 20)
			l := opened(t, d)
			var first []api.Record
			for _, n := range x.sizes {
				r := wide(n)
				r.Seq = l.Next()
				first = append(first, r)
				putAll(t, l, r)
				if !atOnce {
					holdCommit(t, l, api.OK)
				}
			}
			holdCommit(t, l, api.OK)
			holdFiles(t, d, map[string][]byte{file(1): boxes(first...)})
			r := wide(25)
			r.Seq = l.Next()
			putAll(t, l, r)
			holdCommit(t, l, api.OK)
			want := map[string][]byte{file(1): boxes(append(first, r)...)}
			if x.full {
				want = map[string][]byte{file(1): boxes(first...), file(2): boxes(r)}
			}
			holdFiles(t, d, want)
		}
	}
}

// Each commit by which there are 256 bytes leaves the segment, one after the other.
func TestManySegments(t *testing.T) {
	d := disk.New(1 << 20)
	l := opened(t, d)
	want, n := map[string][]byte{}, uint64(1)
	next := noise()
	for range 500 {
		var batch []api.Record
		for range next() >> 32 % 12 {
			r := samples[next()>>32%5]
			r.Seq = l.Next()
			batch = append(batch, r)
			putAll(t, l, r)
		}
		holdCommit(t, l, api.OK)
		if len(batch) == 0 {
			continue
		}
		want[file(n)] = append(want[file(n)], boxes(batch...)...)
		if len(want[file(n)]) >= 256 {
			n++
		}
	}
	holdFiles(t, d, want)
	if n < 100 {
		t.Fatalf("%d segments", n)
	}
}

// What others laid into its own segment is no part of a batch: the whole is written behind it.
func TestOtherBytesInItsOwnSegment(t *testing.T) {
	for _, b := range [][]byte{{0}, []byte("torn"), boxes(numbered(2)), bytes.Repeat([]byte{7}, 250), bytes.Repeat([]byte{7}, 1000)} {
		d := disk.New(1 << 20)
		l := opened(t, d)
		lie(t, d, file(1), b)
		putAll(t, l, numbered(1))
		holdCommit(t, l, api.OK)
		holdFiles(t, d, map[string][]byte{file(1): slices.Concat(b, boxes(numbered(1)))})
		d.Remove(file(1))
		putAll(t, l, numbered(2))
		holdCommit(t, l, api.OK)
		want := file(1)
		if len(b) > 200 {
			want = file(2)
		}
		holdFiles(t, d, map[string][]byte{want: boxes(numbered(2))})
	}
}

func TestACommitWithoutRoom(t *testing.T) {
	size := len(boxes(many(1, 5)...))
	d := disk.New(size + 10)
	lie(t, d, "snap", make([]byte, 11))
	l := opened(t, d)
	putAll(t, l, samples...)
	for i := range 3 {
		holdCommit(t, l, api.ErrFull)
		if d.Calls() != uint64(i)+3 {
			t.Fatalf("%d calls", d.Calls())
		}
	}
	holdFiles(t, d, map[string][]byte{"snap": make([]byte, 11)})
	d.Remove("snap")
	lie(t, d, "snap", make([]byte, 10))
	holdCommit(t, l, api.OK)
	holdFiles(t, d, map[string][]byte{"snap": make([]byte, 10), file(1): boxes(many(1, 5)...)})
	putAll(t, l, samples[0])
	holdCommit(t, l, api.ErrFull)
	putAll(t, l, samples[1:]...)
	holdCommit(t, l, api.ErrFull)
	holdLog(t, l, 11, 5, 5)
	holdOpen(t, d, 1, many(1, 5), 6)
}

func TestACommitWithoutRoomForAFile(t *testing.T) {
	d := disk.New(1 << 20)
	for i := range api.MaxFiles - 1 {
		lie(t, d, fmt.Sprintf("f%d", i), nil)
	}
	l := opened(t, d)
	putAll(t, l, wide(40))
	holdCommit(t, l, api.OK)
	for range 6 {
		putAll(t, l, wide(40))
	}
	holdCommit(t, l, api.OK)
	putAll(t, l, many(8, 5)...)
	holdCommit(t, l, api.ErrRoom)
	holdCommit(t, l, api.ErrRoom)
	holdLog(t, l, 13, 7, 5)
	holdNumbers(t, d, 1)
	d.Remove("f0")
	holdCommit(t, l, api.OK)
	holdNumbers(t, d, 1, 2)
	b, _ := d.Read(file(2))
	if want := boxes(many(8, 5)...); !bytes.Equal(b, want) {
		t.Fatalf("%x, not %x", b, want)
	}
}

// A commit that crashes takes nothing of what is buffered.
func TestACommitThatCrashes(t *testing.T) {
	for place := range uint64(2) {
		for _, keep := range []int{math.MinInt, -1, 0, 1, 20, 1000, math.MaxInt} {
			d := disk.New(1000)
			l := opened(t, d)
			putAll(t, l, samples[:2]...)
			holdCommit(t, l, api.OK)
			putAll(t, l, samples[2:]...)
			d.Arm(place, keep)
			holdCommit(t, l, api.ErrCrash)
			holdCommit(t, l, api.ErrCrash)
			holdLog(t, l, 6, 2, 3)
			sure, rest := boxes(many(1, 2)...), boxes(many(1, 5)[2:]...)
			kept := 0
			if place == 1 {
				kept = min(max(keep, 0), len(rest))
			}
			holdFiles(t, d, map[string][]byte{file(1): append(sure, rest[:kept]...)})
			d.Up()
			holdLog(t, l, 6, 2, 3)
		}
	}
}

// P14.3: Drop

// dropping is a disk with the segments 1 to 4: 1 to 3, none, 4 and 5, 6 to 9, the first and the third with torn ends, and a journal behind them, whose own segment, 5, has 10 and 11.
func dropping(t *testing.T) (*disk.Disk, *wal.Log) {
	t.Helper()
	l := many(1, 11)
	torn := boxes(l[5])
	d := of(t, append(boxes(l[:3]...), torn[:9]...), []byte("torn"), append(boxes(l[3:5]...), torn[:len(torn)-1]...), boxes(l[5:9]...))
	lie(t, d, "snap", []byte("a"))
	log := opened(t, d)
	putAll(t, log, l[9:]...)
	holdCommit(t, log, api.OK)
	holdNumbers(t, d, 1, 2, 3, 4, 5)
	return d, log
}

// holdDrop: of the journal these segments are left, and nothing else is another than it was.
func holdDrop(t *testing.T, seq uint64, want ...uint64) {
	t.Helper()
	d, l := dropping(t)
	files, calls := d.Files(), d.Calls()
	putAll(t, l, samples...)
	if err := l.Drop(seq); err != api.OK {
		t.Fatalf("drop %d: error %d", seq, err)
	}
	holdLog(t, l, 17, 11, 5)
	holdNumbers(t, d, want...)
	left := slices.DeleteFunc(files, func(f api.File) bool {
		n, err := seg.Number(f.Name)
		return err == api.OK && !slices.Contains(want, n)
	})
	if told(d.Files()) != told(left) || d.Calls() != calls+uint64(5-len(want)) {
		t.Fatalf("drop %d: %s, not %s, by %d calls", seq, told(d.Files()), told(left), d.Calls()-calls)
	}
	if err := l.Drop(seq); err != api.OK || told(d.Files()) != told(left) {
		t.Fatalf("drop %d again: error %d, %s", seq, err, told(d.Files()))
	}
	holdCommit(t, l, api.OK)
	holdNumbers(t, d, want...)
}

func TestDrop(t *testing.T) {
	for seq := range uint64(3) {
		holdDrop(t, seq, 1, 3, 4, 5)
	}
	holdDrop(t, 3, 3, 4, 5)
	holdDrop(t, 4, 3, 4, 5)
	holdDrop(t, 5, 4, 5)
	holdDrop(t, 6, 4, 5)
	holdDrop(t, 8, 4, 5)
	for _, seq := range []uint64{9, 10, 11, 12, 16, 17, most - 1, most} {
		holdDrop(t, seq, 5)
	}
}

// Its own segment is left, whether it is there yet or not, is full or not.
func TestDropLeavesItsOwnSegment(t *testing.T) {
	d := disk.New(1 << 20)
	l := opened(t, d)
	for i := range uint64(40) {
		before := seg.Numbers(d.List())
		putAll(t, l, wide(40))
		holdCommit(t, l, api.OK)
		if err := l.Drop(most); err != api.OK {
			t.Fatalf("error %d", err)
		}
		own := i/7 + 1
		if i%7 == 6 {
			holdNumbers(t, d)
			holdOpen(t, d, 5, nil, 5)
			continue
		}
		holdNumbers(t, d, own)
		if i%7 > 0 && !slices.Equal(before, []uint64{own}) {
			t.Fatalf("segments %d, and then %d", before, own)
		}
	}
	holdLog(t, l, 41, 40, 0)
}

func TestDropOfAJournalThatIsOpenedAgain(t *testing.T) {
	d, _ := dropping(t)
	l := opened(t, d)
	if err := l.Drop(10); err != api.OK {
		t.Fatalf("error %d", err)
	}
	holdNumbers(t, d, 5)
	holdOpen(t, d, 1, many(1, 11)[9:], 12)
	if err := l.Drop(11); err != api.OK {
		t.Fatalf("error %d", err)
	}
	holdNumbers(t, d)
	putAll(t, l, samples[0])
	holdCommit(t, l, api.OK)
	holdNumbers(t, d, 6)
}

// Segments of greater numbers, which are not the journal's, are not ahead of its own.
func TestDropLeavesWhatIsBehind(t *testing.T) {
	d, l := dropping(t)
	lie(t, d, file(6), nil)
	lie(t, d, file(most), boxes(many(1, 1)...))
	lie(t, d, file(0), boxes(many(1, 1)...))
	if err := l.Drop(9); err != api.OK {
		t.Fatalf("error %d", err)
	}
	holdNumbers(t, d, 5, 6, most)
}

// A segment's records are its own ones, whether they go on behind those ahead or not.
func TestDropAsksEachSegmentByItself(t *testing.T) {
	d := of(t, boxes(many(1, 2)...), boxes(many(8, 2)...), boxes(many(2, 2)...))
	l := opened(t, d)
	if err := l.Drop(2); err != api.OK {
		t.Fatalf("error %d", err)
	}
	holdNumbers(t, d, 2, 3)
	if err := l.Drop(8); err != api.OK {
		t.Fatalf("error %d", err)
	}
	holdNumbers(t, d, 2)
	if err := l.Drop(9); err != api.OK {
		t.Fatalf("error %d", err)
	}
	holdNumbers(t, d)
}

func TestDropOfTheGreatestNumber(t *testing.T) {
	d := of(t, boxes(many(most-1, 2)...), boxes(many(most, 1)...))
	l := opened(t, d)
	for _, seq := range []uint64{0, 1, most - 2, most - 1} {
		if err := l.Drop(seq); err != api.OK {
			t.Fatalf("error %d", err)
		}
		holdNumbers(t, d, 1, 2)
	}
	if err := l.Drop(most); err != api.OK {
		t.Fatalf("error %d", err)
	}
	holdNumbers(t, d)
}

// A drop that crashes has removed the first segments, by their numbers.
func TestADropThatCrashes(t *testing.T) {
	for place, want := range [][]uint64{{1, 2, 3, 4, 5}, {2, 3, 4, 5}, {3, 4, 5}, {4, 5}} {
		d, l := dropping(t)
		d.Arm(uint64(place), 0)
		if err := l.Drop(most); err != api.ErrCrash {
			t.Fatalf("error %d", err)
		}
		holdNumbers(t, d, want...)
		if err := l.Drop(most); err != api.ErrCrash {
			t.Fatalf("error %d of a disk that is down", err)
		}
		d.Up()
		holdLog(t, l, 12, 11, 0)
		if err := l.Drop(most); err != api.OK {
			t.Fatalf("error %d", err)
		}
		holdNumbers(t, d, 5)
	}
	d, l := dropping(t)
	d.Arm(4, 0)
	if err := l.Drop(most); err != api.OK || d.Down() {
		t.Fatalf("error %d", err)
	}
	holdNumbers(t, d, 5)
}

func TestADropOfADiskThatIsDown(t *testing.T) {
	for _, seq := range []uint64{3, 9, most} {
		d, l := dropping(t)
		d.Crash(0)
		if err := l.Drop(seq); err != api.ErrCrash {
			t.Fatalf("error %d", err)
		}
		holdNumbers(t, d, 1, 2, 3, 4, 5)
	}
}

func TestDropOfNothing(t *testing.T) {
	d := disk.New(100)
	lie(t, d, "snap", []byte("a"))
	l := opened(t, d)
	d.Arm(0, 0)
	for _, seq := range []uint64{0, 1, most} {
		if err := l.Drop(seq); err != api.OK || d.Down() {
			t.Fatalf("error %d", err)
		}
	}
}

// Of nil

func TestOfNoJournal(t *testing.T) {
	var l *wal.Log
	for _, r := range append(slices.Clone(samples), api.Record{}) {
		if n, err := l.Put(r); n != 0 || err != api.ErrNone {
			t.Errorf("put: %d, error %d", n, err)
		}
	}
	if err := l.Commit(); err != api.ErrNone {
		t.Errorf("commit: error %d", err)
	}
	for _, seq := range []uint64{0, 1, most} {
		if err := l.Drop(seq); err != api.ErrNone {
			t.Errorf("drop: error %d", err)
		}
	}
	holdLog(t, l, 0, 0, 0)
}

// P14.4

// holdAfterACrash: the journal that is opened now has a beginning of what was put, with at least so many records.
func holdAfterACrash(t *testing.T, d *disk.Disk, put []api.Record, sure int) []api.Record {
	t.Helper()
	_, got, err := wal.Open(d, 1)
	if err != api.OK || len(got) < sure || len(got) > len(put) || !slices.Equal(got, put[:len(got)]) {
		t.Fatalf("%+v, error %d, of %+v, of which %d were sure", got, err, put, sure)
	}
	return got
}

// A crash at each call of some commits, with each number of bytes that are kept; then what is lost is put once more.
func TestACrashAnywhere(t *testing.T) {
	l := many(1, 24)
	sizes := []int{1, 2, 9, 1, 4, 7}
	for place := range uint64(2 * len(sizes)) {
		for keep := range 300 {
			d := disk.New(1 << 20)
			log := opened(t, d)
			d.Arm(place, keep)
			put, sure := 0, 0
			for _, n := range sizes {
				putAll(t, log, l[put:put+n]...)
				put += n
				if log.Commit() != api.OK {
					break
				}
				sure = put
			}
			if !d.Down() || sure != int(log.Sure()) {
				t.Fatalf("place %d: %d were sure, not %d", place, log.Sure(), sure)
			}
			d.Up()
			got := holdAfterACrash(t, d, l[:put], sure)
			log = opened(t, d)
			for _, r := range l[len(got):] {
				putAll(t, log, r)
				holdCommit(t, log, api.OK)
			}
			holdOpen(t, d, 1, l, 25)
		}
	}
}

// The journal that saw the crash goes on, too: what a crash kept of a commit is not written twice, nor is anything put behind a torn end.
func TestACommitBehindACrash(t *testing.T) {
	l := many(1, 12)
	rest := boxes(l[4:9]...)
	for keep := range len(rest) + 2 {
		for _, again := range []int{-1, 0, 1, 17, 40, 1000} {
			d := disk.New(1 << 20)
			log := opened(t, d)
			putAll(t, log, l[:4]...)
			holdCommit(t, log, api.OK)
			putAll(t, log, l[4:9]...)
			d.Arm(1, keep)
			holdCommit(t, log, api.ErrCrash)
			d.Up()
			if again >= 0 {
				putAll(t, log, l[9])
				d.Arm(1, again)
				holdCommit(t, log, api.ErrCrash)
				d.Up()
			}
			holdAfterACrash(t, d, l, 4)
			calls := d.Calls()
			holdCommit(t, log, api.OK)
			if d.Calls() != calls+2 {
				t.Fatalf("%d calls", d.Calls()-calls)
			}
			n := int(log.Sure())
			holdFiles(t, d, map[string][]byte{file(1): boxes(l[:n]...)})
			putAll(t, log, l[n:]...)
			holdCommit(t, log, api.OK)
			holdOpen(t, d, 1, l, 13)
		}
	}
}

// segment is records of which so many bytes are there.
type segment struct {
	l   []api.Record
	cut int
}

// records are those whose boxes are whole.
func (s segment) records() []api.Record {
	n := len(s.l)
	for len(boxes(s.l[:n]...)) > s.cut {
		n--
	}
	return s.l[:n]
}

// journal is what the chapter says, put down once more, as records and not as bytes.
type journal struct {
	segments map[uint64]segment
	own      uint64
	done     []api.Record // what commits wrote to its own segment
	sure     []api.Record // all that is sure, and was not dropped
	waits    []api.Record
	next     uint64
}

// numbers are those of its segments, rising.
func (j *journal) numbers() []uint64 {
	return slices.Sorted(maps.Keys(j.segments))
}

// commit is told by which of its calls it crashes, if it does.
func (j *journal) commit(place, keep int) api.Errno {
	if len(j.waits) == 0 {
		return api.OK
	}
	l := slices.Concat(j.done, j.waits)
	whole := len(boxes(l...))
	switch place {
	case 0:
		return api.ErrCrash
	case 1:
		j.segments[j.own] = segment{l, min(j.segments[j.own].cut+keep, whole)}
		return api.ErrCrash
	}
	j.segments[j.own] = segment{l, whole}
	j.done = l
	if whole >= 256 {
		j.own++
		j.done = nil
	}
	j.sure, j.waits = append(j.sure, j.waits...), nil
	return api.OK
}

// open makes all sure that is there, and lets go of the rest.
func (j *journal) open(next uint64) []api.Record {
	j.own, j.next = 1, max(next, 1)
	j.done, j.sure, j.waits = nil, nil, nil
	for _, n := range j.numbers() {
		j.sure = append(j.sure, j.segments[n].records()...)
		j.own = n + 1
	}
	if len(j.sure) > 0 {
		j.next = j.sure[len(j.sure)-1].Seq + 1
	}
	return j.sure
}

// drop is told how many calls are done yet.
func (j *journal) drop(seq uint64, calls int) api.Errno {
	for _, n := range j.numbers() {
		l := j.segments[n].records()
		if n >= j.own || len(l) > 0 && l[len(l)-1].Seq > seq {
			continue
		}
		if calls == 0 {
			return api.ErrCrash
		}
		calls--
		delete(j.segments, n)
		j.sure = slices.DeleteFunc(j.sure, func(r api.Record) bool { return slices.Contains(l, r) })
	}
	return api.OK
}

func holdJournal(t *testing.T, d *disk.Disk, l *wal.Log, j *journal) {
	t.Helper()
	want := map[string][]byte{}
	for n, s := range j.segments {
		want[file(n)] = boxes(s.l...)[:s.cut]
	}
	holdFiles(t, d, want)
	holdLog(t, l, j.next, j.next-1-uint64(len(j.waits)), len(j.waits))
}

// runs is what was done of a kind in all of them.
type runs struct {
	opens, commits, drops, crashes int
}

// step does something with a journal, and with what the chapter says of it.
func (x *runs) step(t *testing.T, d *disk.Disk, l *wal.Log, j *journal, few func(n int) int) *wal.Log {
	t.Helper()
	switch few(8) {
	case 0:
		next := j.next + uint64(few(3))
		sure, put := slices.Clone(j.sure), slices.Concat(j.sure, j.waits)
		log, got, err := wal.Open(d, next)
		if want := j.open(next); err != api.OK || !slices.Equal(got, want) {
			t.Fatalf("%+v, error %d, not %+v", got, err, want)
		}
		if len(got) < len(sure) || !slices.Equal(got, put[:len(got)]) {
			t.Fatalf("%+v, of %+v, with %+v sure", got, put, sure)
		}
		l = log
		x.opens++
	case 1:
		seq, calls := max(j.next, 40)-uint64(few(40)), few(20)
		d.Arm(uint64(calls), few(200))
		if got, want := l.Drop(seq), j.drop(seq, calls); got != want {
			t.Fatalf("drop %d: error %d, not %d", seq, got, want)
		}
		x.drops++
	case 2, 3:
		place, keep := few(6), few(200)
		d.Arm(uint64(place), keep)
		if got, want := l.Commit(), j.commit(place, keep); got != want {
			t.Fatalf("commit: error %d, not %d", got, want)
		}
		x.commits++
	default:
		r := samples[few(5)]
		r.Seq = j.next
		holdPut(t, l, r, j.next)
		j.next++
		j.waits = append(j.waits, r)
	}
	return l
}

// Runs of all calls, with crashes anywhere, go as the chapter says; opened again a journal has all that was sure. Behind a crash some go on without that.
func TestWholeRuns(t *testing.T) {
	next := noise()
	few := func(n int) int { return int(next() >> 32 % uint64(n)) }
	var x runs
	for range 500 {
		d := disk.New(1 << 20)
		l := opened(t, d)
		j := &journal{segments: map[uint64]segment{}, next: 1, own: 1}
		for range 80 {
			l = x.step(t, d, l, j, few)
			if d.Down() {
				x.crashes++
				d.Up()
			}
			d.Arm(most, 0)
			holdJournal(t, d, l, j)
		}
	}
	if x.opens < 1000 || x.commits < 1000 || x.drops < 1000 || x.crashes < 1000 {
		t.Errorf("%+v", x)
	}
}

// A drop that crashes anywhere leaves a journal of the records behind those that were dropped.
func TestARecordThatWasNotDroppedIsThere(t *testing.T) {
	for _, seq := range []uint64{0, 3, 5, 9, most} {
		for place := range uint64(5) {
			d, l := dropping(t)
			d.Arm(place, 0)
			l.Drop(seq)
			d.Up()
			_, got, err := wal.Open(d, 1)
			all := many(1, 11)
			if err != api.OK || len(got) < 2 || !slices.Equal(got, all[11-len(got):]) || len(got) < 11-int(min(seq, 11)) {
				t.Errorf("drop %d, place %d: %+v, error %d", seq, place, got, err)
			}
		}
	}
}

// What is handed in, and out

func TestWhatOpenAnswersIsSharedWithNobody(t *testing.T) {
	want := many(1, 6)
	d := of(t, boxes(want...))
	l, one, _ := wal.Open(d, 1)
	_, other, _ := wal.Open(d, 1)
	clear(other)
	if !slices.Equal(one, want) {
		t.Fatalf("%+v, behind a change of another answer", one)
	}
	clear(one)
	_ = append(one, samples...)
	holdLog(t, l, 7, 6, 0)
	putAll(t, l, many(7, 5)...)
	holdCommit(t, l, api.OK)
	holdOpen(t, d, 1, many(1, 11), 12)
}

// Journals of disks that are apart are so, too.
func TestJournalsAreApart(t *testing.T) {
	c, d := disk.New(1000), disk.New(1000)
	one, other := opened(t, c), opened(t, d)
	putAll(t, one, samples[:2]...)
	putAll(t, other, samples[4])
	holdCommit(t, one, api.OK)
	holdLog(t, other, 2, 0, 1)
	putAll(t, other, samples[3])
	holdCommit(t, other, api.OK)
	holdOpen(t, c, 1, many(1, 2), 3)
	four, three := samples[4], samples[3]
	four.Seq, three.Seq = 1, 2
	holdOpen(t, d, 1, []api.Record{four, three}, 3)
}
