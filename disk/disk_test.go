package disk_test

import (
	"bytes"
	"fmt"
	"math"
	"regexp"
	"slices"
	"strings"
	"testing"

	"taximeter/api"
	"taximeter/disk"
)

// targets tells names, apart from the program.
var targets = regexp.MustCompile(`\A[a-z0-9-][a-z0-9.:-]{0,23}\z`)

const (
	name24 = "a-name.of-24.letters:443"
	name25 = "a-name.of-25.letters:8080"
)

// noNames may be the name of no file.
var noNames = []string{"", ".", ":", ".a", ":a", "A", "aB", "a b", " a", "a ", "a_b", "a/b", "a\n", "a\x00", "é", "aé", "\xff", "a\xff", name25, strings.Repeat("a", 100)}

// noise makes numbers of all bits, ever the same ones.
func noise() func() uint64 {
	x := uint64(88172645463325252)
	return func() uint64 {
		x ^= x << 13
		x ^= x >> 7
		x ^= x << 17
		return x * 2685821657736338717
	}
}

// step is something that is done with a disk, what it is to answer with it. more is bytes, or the other name; n and keep are those of arm and crash.
type step struct {
	what string
	name string
	more string
	want api.Errno
	n    uint64
	keep int
}

func put(name, b string, want api.Errno) step {
	return step{what: "append", name: name, more: b, want: want}
}
func sync(name string, want api.Errno) step { return step{what: "sync", name: name, want: want} }
func rename(from, to string, want api.Errno) step {
	return step{what: "rename", name: from, more: to, want: want}
}
func remove(name string, want api.Errno) step { return step{what: "remove", name: name, want: want} }
func arm(n uint64, keep int) step             { return step{what: "arm", n: n, keep: keep} }
func crash(keep int) step                     { return step{what: "crash", keep: keep} }
func up() step                                { return step{what: "up"} }

// do answers OK of what is no call.
func do(d *disk.Disk, s step) api.Errno {
	switch s.what {
	case "append":
		return d.Append(s.name, []byte(s.more))
	case "sync":
		return d.Sync(s.name)
	case "rename":
		return d.Rename(s.name, s.more)
	case "remove":
		return d.Remove(s.name)
	case "arm":
		d.Arm(s.n, s.keep)
	case "crash":
		d.Crash(s.keep)
	case "up":
		d.Up()
	}
	return api.OK
}

func holdSteps(t *testing.T, d *disk.Disk, l ...step) {
	t.Helper()
	for i, s := range l {
		if got := do(d, s); got != s.want {
			t.Fatalf("step %d, %+v: %d", i, s, got)
		}
	}
}

// told is the files as a text: of each its name, its sure bytes, and the others behind a bar.
func told(l []api.File) string {
	s := []string{}
	for _, f := range l {
		s = append(s, f.Name+"="+string(f.Data[:f.Sure])+"|"+string(f.Data[f.Sure:]))
	}
	return strings.Join(s, " ")
}

// holdFiles holds all that tells of files against each other, too.
func holdFiles(t *testing.T, d *disk.Disk, want string) {
	t.Helper()
	l := d.Files()
	if got := told(l); got != want {
		t.Fatalf("files: %q, not %q", got, want)
	}
	names, size := []string{}, 0
	for _, f := range l {
		names, size = append(names, f.Name), size+len(f.Data)
		b, e := d.Read(f.Name)
		if d.Down() && (e != api.ErrCrash || len(b) > 0) || !d.Down() && (e != api.OK || !bytes.Equal(b, f.Data)) {
			t.Fatalf("%s: read as %q, error %d", f.Name, b, e)
		}
	}
	if got := d.List(); !slices.Equal(got, names) {
		t.Fatalf("names: %q, not %q", got, names)
	}
	if d.Size() != size {
		t.Fatalf("size %d, not %d", d.Size(), size)
	}
}

func holdCalls(t *testing.T, d *disk.Disk, calls uint64, down bool) {
	t.Helper()
	if d.Calls() != calls || d.Down() != down {
		t.Fatalf("%d calls, down: %v, not %d, %v", d.Calls(), d.Down(), calls, down)
	}
}

// of is a disk that has a of xyz, sure, and uv behind; b of 12, not sure; c without bytes.
func of(t *testing.T) *disk.Disk {
	t.Helper()
	d := disk.New(100)
	holdSteps(t, d, put("a", "xyz", 0), sync("a", 0), put("a", "uv", 0), put("b", "12", 0), put("c", "", 0))
	holdFiles(t, d, "a=xyz|uv b=|12 c=|")
	holdCalls(t, d, 5, false)
	return d
}

// P9.1: Append, Sync, Rename, Remove

func TestExample(t *testing.T) {
	d := disk.New(10)
	holdSteps(t, d, put("a", "xyz", 0), sync("a", 0), put("a", "uv", 0), crash(1), up())
	holdFiles(t, d, "a=xyzu|")
	holdCalls(t, d, 3, false)
}

func TestANewDisk(t *testing.T) {
	d := disk.New(10)
	holdFiles(t, d, "")
	holdCalls(t, d, 0, false)
	if b, e := d.Read("a"); e != api.ErrNone || len(b) > 0 {
		t.Error(b, e)
	}
}

func TestFilesThatAreWritten(t *testing.T) {
	d := disk.New(100)
	for i, x := range []struct {
		step
		files string
	}{
		{put("b", "one", 0), "b=|one"},
		{put("b", "two", 0), "b=|onetwo"},
		{sync("b", 0), "b=onetwo|"},
		{sync("b", 0), "b=onetwo|"},
		{put("b", "three", 0), "b=onetwo|three"},
		{put("a", "x", 0), "a=|x b=onetwo|three"},
		{sync("b", 0), "a=|x b=onetwothree|"},
		{put("a", "y", 0), "a=|xy b=onetwothree|"},
		{rename("b", "c", 0), "a=|xy c=onetwothree|"},
		{sync("b", api.ErrNone), "a=|xy c=onetwothree|"},
		{put("b", "new", 0), "a=|xy b=|new c=onetwothree|"},
		{sync("c", 0), "a=|xy b=|new c=onetwothree|"},
		{remove("c", 0), "a=|xy b=|new"},
		{remove("c", api.ErrNone), "a=|xy b=|new"},
		{put("c", "z", 0), "a=|xy b=|new c=|z"},
		{sync("a", 0), "a=xy| b=|new c=|z"},
		{remove("b", 0), "a=xy| c=|z"},
		{remove("a", 0), "c=|z"},
		{remove("c", 0), ""},
	} {
		holdSteps(t, d, x.step)
		holdFiles(t, d, x.files)
		holdCalls(t, d, uint64(i+1), false)
	}
}

func TestAllBytesMayBeInAFile(t *testing.T) {
	d := disk.New(1000)
	all := make([]byte, 256)
	for i := range all {
		all[i] = byte(i)
	}
	for range 2 {
		if e := d.Append("a", all); e != api.OK {
			t.Fatal(e)
		}
	}
	if b, e := d.Read("a"); e != api.OK || !bytes.Equal(b, append(all, all...)) {
		t.Error(b, e)
	}
}

func TestCapacity(t *testing.T) {
	for _, capacity := range []int{0, 1, 2, 7, 100, 5000} {
		full, more := strings.Repeat("x", capacity), strings.Repeat("x", capacity+1)
		d := disk.New(capacity)
		holdSteps(t, d, put("a", more, api.ErrFull))
		holdFiles(t, d, "")
		holdSteps(t, d, put("a", full, 0))
		holdFiles(t, d, "a=|"+full)
		holdSteps(t, d, put("a", "y", api.ErrFull), put("b", "y", api.ErrFull), put("a", "", 0), sync("a", 0), put("a", "y", api.ErrFull))
		holdFiles(t, d, "a="+full+"|")
		holdSteps(t, d, put("b", "", 0), put("b", "", 0))
		holdFiles(t, d, "a="+full+"| b=|")
		holdCalls(t, d, 9, false)
	}
}

func TestACapacityBelow0Is0(t *testing.T) {
	for _, capacity := range []int{0, -1, -2, -100, math.MinInt, math.MinInt + 1} {
		d := disk.New(capacity)
		holdSteps(t, d, put("a", "x", api.ErrFull))
		holdFiles(t, d, "")
		holdSteps(t, d, put("a", "", 0), put("a", "x", api.ErrFull), sync("a", 0), rename("a", "b", 0))
		holdFiles(t, d, "b=|")
		holdCalls(t, d, 5, false)
	}
}

func TestAGreatCapacity(t *testing.T) {
	for _, capacity := range []int{1 << 32, math.MaxInt - 1, math.MaxInt} {
		d := disk.New(capacity)
		holdSteps(t, d, put("a", "xyz", 0), put("b", strings.Repeat("y", 1000), 0), put("a", "", 0), put("a", "u", 0), remove("b", 0))
		holdFiles(t, d, "a=|xyzu")
	}
}

func TestTheCapacityIsOfAllFiles(t *testing.T) {
	d := disk.New(7)
	holdSteps(t, d, put("a", "123", 0), put("b", "45", 0), sync("a", 0), put("c", "678", api.ErrFull), put("a", "678", api.ErrFull))
	holdFiles(t, d, "a=123| b=|45")
	holdSteps(t, d, put("c", "67", 0), put("c", "8", api.ErrFull), put("a", "8", api.ErrFull))
	holdFiles(t, d, "a=123| b=|45 c=|67")
	holdSteps(t, d, rename("a", "d", 0), rename("c", "c", 0), put("d", "8", api.ErrFull))
	holdFiles(t, d, "b=|45 c=|67 d=123|")
}

func TestRoomThatComesBack(t *testing.T) {
	d := disk.New(7)
	holdSteps(t, d, put("a", "1234", 0), put("b", "567", 0), put("b", "8", api.ErrFull), remove("a", 0), put("b", "89abc", api.ErrFull), put("b", "89ab", 0), put("b", "c", api.ErrFull))
	holdFiles(t, d, "b=|56789ab")
	d = disk.New(7)
	holdSteps(t, d, put("a", "1234", 0), put("b", "567", 0), rename("b", "a", 0), put("a", "89abc", api.ErrFull), put("a", "89ab", 0))
	holdFiles(t, d, "a=|56789ab")
	d = disk.New(7)
	holdSteps(t, d, put("a", "1234", 0), sync("a", 0), put("b", "567", 0), crash(1), up(), put("b", "678", api.ErrFull), put("b", "67", 0), put("a", "8", api.ErrFull))
	holdFiles(t, d, "a=1234| b=5|67")
}

func TestNoBytes(t *testing.T) {
	for _, b := range [][]byte{nil, {}, make([]byte, 0, 10), []byte("xyz")[:0]} {
		d := of(t)
		if d.Append("a", b) != api.OK || d.Append("b", b) != api.OK || d.Append("d", b) != api.OK || d.Append(name24, b) != api.OK {
			t.Fatal("no bytes are refused")
		}
		holdFiles(t, d, "a=xyz|uv "+name24+"=| b=|12 c=| d=|")
		holdSteps(t, d, sync("d", 0), remove("c", 0))
		holdFiles(t, d, "a=xyz|uv "+name24+"=| b=|12 d=|")
		holdCalls(t, d, 11, false)
	}
}

// fill makes as many files as there may be, and tells them.
func fill(t *testing.T, d *disk.Disk) []string {
	t.Helper()
	l := []string{}
	for i := range api.MaxFiles {
		s := fmt.Sprintf("f%04d", i)
		holdSteps(t, d, put(s, "", 0))
		l = append(l, s)
	}
	if got := d.List(); !slices.Equal(got, l) {
		t.Fatal("names:", got)
	}
	return l
}

func TestMaxFiles(t *testing.T) {
	d := disk.New(3000)
	l := fill(t, d)
	holdSteps(t, d, put("a", "", api.ErrRoom), put("a", "x", api.ErrRoom), put("z", "", api.ErrRoom), sync("a", api.ErrNone), remove("a", api.ErrNone))
	for _, s := range l {
		holdSteps(t, d, put(s, "xy", 0))
	}
	if d.Size() != 2*api.MaxFiles || len(d.Files()) != api.MaxFiles || len(d.List()) != api.MaxFiles {
		t.Error(d.Size(), len(d.Files()))
	}
	holdSteps(t, d, sync(l[7], 0), put(l[7], "z", 0), rename(l[7], "a", 0), put(l[7], "", api.ErrRoom), put("a", "u", 0), put("b", "", api.ErrRoom), rename("a", "a", 0), put("b", "", api.ErrRoom))
	if f := d.Files()[0]; f.Name != "a" || string(f.Data) != "xyzu" || f.Sure != 2 {
		t.Error(f)
	}
}

func TestFilesThatThereIsRoomForAgain(t *testing.T) {
	d := disk.New(10)
	l := fill(t, d)
	holdSteps(t, d, put("a", "x", api.ErrRoom), remove(l[0], 0), put("a", "x", 0), put("b", "x", api.ErrRoom), put("a", "x", 0))
	holdSteps(t, d, rename("a", l[1], 0), put("b", "x", 0), put("c", "x", api.ErrRoom), put("b", "x", 0))
	holdSteps(t, d, crash(0), up(), put("c", "x", api.ErrRoom), put("b", "x", 0), remove("b", 0), put("c", "x", 0))
	if len(d.List()) != api.MaxFiles || d.Size() != 1 {
		t.Error(len(d.List()), d.Size())
	}
}

func TestRenames(t *testing.T) {
	for _, x := range []struct {
		from, to string
		want     api.Errno
		files    string
	}{
		{"a", "d", 0, "b=|12 c=| d=xyz|uv"},
		{"a", name24, 0, name24 + "=xyz|uv b=|12 c=|"},
		{"b", "0", 0, "0=|12 a=xyz|uv c=|"},
		{"c", "d", 0, "a=xyz|uv b=|12 d=|"},
		{"a", "a", 0, "a=xyz|uv b=|12 c=|"},
		{"b", "b", 0, "a=xyz|uv b=|12 c=|"},
		{"c", "c", 0, "a=xyz|uv b=|12 c=|"},
		{"a", "b", 0, "b=xyz|uv c=|"},
		{"b", "a", 0, "a=|12 c=|"},
		{"a", "c", 0, "b=|12 c=xyz|uv"},
		{"c", "a", 0, "a=| b=|12"},
		{"c", "b", 0, "a=xyz|uv b=|"},
		{"d", "a", api.ErrNone, "a=xyz|uv b=|12 c=|"},
		{"d", "d", api.ErrNone, "a=xyz|uv b=|12 c=|"},
		{"d", "e", api.ErrNone, "a=xyz|uv b=|12 c=|"},
	} {
		d := of(t)
		holdSteps(t, d, rename(x.from, x.to, x.want))
		holdFiles(t, d, x.files)
		holdCalls(t, d, 6, false)
	}
}

// What is done with one name behind a Rename is not done with the other one.
func TestARenamedFileIsAnotherOne(t *testing.T) {
	d := of(t)
	holdSteps(t, d, rename("a", "d", 0), sync("a", api.ErrNone), rename("a", "e", api.ErrNone), remove("a", api.ErrNone), put("a", "new", 0), put("d", "w", 0))
	holdFiles(t, d, "a=|new b=|12 c=| d=xyz|uvw")
	holdSteps(t, d, sync("a", 0), put("d", "0", 0), put("a", "9", 0))
	holdFiles(t, d, "a=new|9 b=|12 c=| d=xyz|uvw0")
	holdSteps(t, d, rename("d", "b", 0), sync("b", 0), put("b", "!", 0), remove("d", api.ErrNone), remove("a", 0))
	holdFiles(t, d, "b=xyzuvw0|! c=|")
}

func TestFilesThatAreNotThere(t *testing.T) {
	d := of(t)
	for i, s := range []string{"d", "aa", "0", "-", name24, "a.", "a:", "b1"} {
		holdSteps(t, d, sync(s, api.ErrNone), rename(s, "a", api.ErrNone), rename(s, s, api.ErrNone), remove(s, api.ErrNone))
		holdCalls(t, d, uint64(5+4*(i+1)), false)
		if b, e := d.Read(s); e != api.ErrNone || len(b) > 0 {
			t.Error(s, b, e)
		}
	}
	holdFiles(t, d, "a=xyz|uv b=|12 c=|")
}

// holdName asks all calls of a name, as from and as to, each of a disk that is new.
func holdName(t *testing.T, s string) {
	t.Helper()
	if !targets.MatchString(s) {
		d := of(t)
		holdSteps(t, d, put(s, "x", api.ErrName), put(s, "", api.ErrName), sync(s, api.ErrName), remove(s, api.ErrName), rename(s, "a", api.ErrName), rename("a", s, api.ErrName), rename(s, s, api.ErrName))
		holdFiles(t, d, "a=xyz|uv b=|12 c=|")
		holdCalls(t, d, 12, false)
		if b, e := d.Read(s); e != api.ErrNone || len(b) > 0 {
			t.Errorf("%q: %q, error %d", s, b, e)
		}
		return
	}
	d := disk.New(100)
	holdSteps(t, d, put(s, "x", 0), sync(s, 0), put(s, "y", 0))
	holdFiles(t, d, s+"=x|y")
	holdSteps(t, d, rename(s, "zz", 0), rename("zz", s, 0), rename(s, s, 0))
	holdFiles(t, d, s+"=x|y")
	holdSteps(t, d, remove(s, 0))
	holdFiles(t, d, "")
	holdCalls(t, d, 7, false)
}

func TestNames(t *testing.T) {
	for _, s := range append([]string{"a", "a-1", "1a", "-", "--", "9.example:80", "w00000000000000ff", "snap", "snap-new", name24, strings.Repeat("a", api.MaxTarget), strings.Repeat("a", api.MaxTarget+1)}, noNames...) {
		holdName(t, s)
	}
	if len(name24) != api.MaxTarget || len(name25) != api.MaxTarget+1 {
		t.Error("the names at the edge are not")
	}
}

func TestEachByteOfAName(t *testing.T) {
	for x := range 256 {
		s := string([]byte{byte(x)})
		for _, name := range []string{s, s + "a", "a" + s, "a" + s + "b", name24[1:] + s, s + name24[1:], name24 + s} {
			holdName(t, name)
		}
	}
}

// Of two errors that would do the one comes that the chapter names first.
func TestWhichErrorComesFirst(t *testing.T) {
	d := disk.New(1)
	l := fill(t, d)
	holdSteps(t, d, put(l[0], "x", 0))
	for _, s := range noNames {
		holdSteps(t, d, put(s, "", api.ErrName), put(s, "xyz", api.ErrName), sync(s, api.ErrName), remove(s, api.ErrName))
		holdSteps(t, d, rename(s, "not-there", api.ErrName), rename("not-there", s, api.ErrName), rename(l[0], s, api.ErrName), rename(s, l[0], api.ErrName), rename(s, s, api.ErrName))
	}
	holdSteps(t, d, put("a", "xyz", api.ErrRoom), put("a", "", api.ErrRoom), put(l[1], "x", api.ErrFull), put(l[1], "", 0))
	holdSteps(t, d, remove(l[1], 0), put("a", "x", api.ErrFull), put("a", "", 0))
	d.Crash(0)
	for _, s := range append([]string{"a", "not-there", l[0]}, noNames...) {
		holdSteps(t, d, put(s, "xyz", api.ErrCrash), put(s, "", api.ErrCrash), sync(s, api.ErrCrash), remove(s, api.ErrCrash), rename(s, "b", api.ErrCrash), rename("b", s, api.ErrCrash))
		if b, e := d.Read(s); e != api.ErrCrash || len(b) > 0 {
			t.Errorf("%q: %q, error %d", s, b, e)
		}
	}
}

// P9.2: Arm, Crash, Up, Down

// calls are of each kind, some of which are refused.
func calls() []step {
	return []step{
		put("a", "w", 0), sync("a", 0), rename("b", "d", 0), remove("c", 0), put("d", "3", 0),
		put("A", "x", api.ErrName), put("a", strings.Repeat("x", 101), api.ErrFull), sync("", api.ErrName), sync("none", api.ErrNone),
		rename("a", "A", api.ErrName), rename("A", "a", api.ErrName), rename("none", "a", api.ErrNone), remove("c", api.ErrNone), remove(".", api.ErrName),
		put("e", "", 0), put("e", "5", 0), sync("e", 0), rename("e", "e", 0),
	}
}

func TestArmed(t *testing.T) {
	for n := range len(calls()) + 1 {
		for last := range calls() {
			d := of(t)
			d.Arm(uint64(n), 0)
			holdSteps(t, d, calls()[:n]...)
			holdCalls(t, d, uint64(5+n), false)
			sure := ""
			for _, f := range d.Files() {
				sure += f.Name + "=" + string(f.Data[:f.Sure]) + "| "
			}
			if s := calls()[last]; do(d, s) != api.ErrCrash {
				t.Fatalf("behind %d calls: %+v comes ahead of a crash", n, s)
			}
			holdCalls(t, d, uint64(5+n), true)
			holdFiles(t, d, strings.TrimSuffix(sure, " "))
		}
	}
}

// The call by which a disk crashes is not done, and would not be done in part.
func TestTheCallThatCrashesIsNotDone(t *testing.T) {
	for _, s := range []step{
		put("a", "w", api.ErrCrash), put("a", "", api.ErrCrash), put("d", "w", api.ErrCrash), put("d", "", api.ErrCrash), sync("a", api.ErrCrash), sync("b", api.ErrCrash),
		rename("a", "b", api.ErrCrash), rename("b", "d", api.ErrCrash), rename("a", "a", api.ErrCrash), remove("a", api.ErrCrash), remove("c", api.ErrCrash),
		put("", "w", api.ErrCrash), put("a", strings.Repeat("x", 101), api.ErrCrash), sync("none", api.ErrCrash), sync("A", api.ErrCrash), rename("A", "b", api.ErrCrash), rename("a", "B", api.ErrCrash), remove("none", api.ErrCrash), remove(":", api.ErrCrash),
	} {
		for keep, files := range []string{"a=xyz| b=| c=|", "a=xyzu| b=1| c=|", "a=xyzuv| b=12| c=|", "a=xyzuv| b=12| c=|"} {
			d := of(t)
			holdSteps(t, d, arm(0, keep), s)
			holdFiles(t, d, files)
			holdCalls(t, d, 5, true)
			holdSteps(t, d, up())
			holdFiles(t, d, files)
			want := do(of(t), s)
			if got := do(d, s); got != want {
				t.Errorf("%+v: %d, not %d, behind the crash", s, got, want)
			}
			holdCalls(t, d, 6, false)
		}
	}
}

func TestKeptBytes(t *testing.T) {
	for _, x := range []struct {
		keep  int
		files string
	}{
		{math.MinInt, "a=xyz| b=| c=| d=0123|"}, {math.MinInt + 1, "a=xyz| b=| c=| d=0123|"}, {-3, "a=xyz| b=| c=| d=0123|"}, {-1, "a=xyz| b=| c=| d=0123|"}, {0, "a=xyz| b=| c=| d=0123|"},
		{1, "a=xyzu| b=1| c=| d=0123|"}, {2, "a=xyzuv| b=12| c=| d=0123|"}, {3, "a=xyzuv| b=123| c=| d=0123|"}, {4, "a=xyzuv| b=1234| c=| d=0123|"}, {5, "a=xyzuv| b=1234| c=| d=0123|"},
		{100, "a=xyzuv| b=1234| c=| d=0123|"}, {math.MaxInt - 2, "a=xyzuv| b=1234| c=| d=0123|"}, {math.MaxInt, "a=xyzuv| b=1234| c=| d=0123|"},
	} {
		for _, end := range [][]step{{crash(x.keep)}, {arm(0, x.keep), sync("b", api.ErrCrash)}, {arm(1, x.keep), put("b", "", 0), remove("a", api.ErrCrash)}} {
			d := of(t)
			holdSteps(t, d, put("b", "34", 0), put("d", "0123", 0), sync("d", 0))
			holdSteps(t, d, end...)
			holdFiles(t, d, x.files)
			holdSteps(t, d, up())
			holdFiles(t, d, x.files)
		}
	}
}

// Behind a crash files go on from what is left of them.
func TestAppendingBehindACrash(t *testing.T) {
	d := of(t)
	holdSteps(t, d, crash(1), up(), put("a", "U", 0), put("b", "XYZ", 0), put("c", "", 0), put("d", "4", 0))
	holdFiles(t, d, "a=xyzu|U b=1|XYZ c=| d=|4")
	holdSteps(t, d, sync("b", 0), crash(0), up(), put("a", "v", 0))
	holdFiles(t, d, "a=xyzu|v b=1XYZ| c=| d=|")
}

func TestRefusedCallsCountOnAnArmedDisk(t *testing.T) {
	for _, s := range []step{put("", "x", api.ErrName), put("a", strings.Repeat("x", 101), api.ErrFull), sync(".", api.ErrName), sync("d", api.ErrNone), rename("A", "a", api.ErrName), rename("a", "A", api.ErrName), rename("d", "a", api.ErrNone), remove(name25, api.ErrName), remove("d", api.ErrNone)} {
		d := of(t)
		holdSteps(t, d, arm(3, 0), s, s, s)
		holdFiles(t, d, "a=xyz|uv b=|12 c=|")
		holdCalls(t, d, 8, false)
		holdSteps(t, d, put("a", "x", api.ErrCrash))
		holdFiles(t, d, "a=xyz| b=| c=|")
		holdCalls(t, d, 8, true)
	}
	d := disk.New(10)
	fill(t, d)
	holdSteps(t, d, arm(2, 0), put("a", "x", api.ErrRoom), put("a", "", api.ErrRoom), put("a", "", api.ErrCrash))
	holdCalls(t, d, api.MaxFiles+2, true)
}

// What is asked of an armed disk by no call makes no crash, and is not counted.
func TestWhatIsNoCall(t *testing.T) {
	d := of(t)
	d.Arm(1, 0)
	for range 5 {
		for _, s := range []string{"a", "none", ""} {
			if _, e := d.Read(s); e == api.ErrCrash {
				t.Fatal("a crash by Read")
			}
		}
		d.Up()
		holdFiles(t, d, "a=xyz|uv b=|12 c=|")
		holdCalls(t, d, 5, false)
	}
	holdSteps(t, d, sync("b", 0), sync("a", api.ErrCrash))
	holdFiles(t, d, "a=xyz| b=12| c=|")
	holdCalls(t, d, 6, true)
}

func TestArmedWithGreatNumbers(t *testing.T) {
	const many = 70000 // more than 16 bits tell
	for _, n := range []uint64{many, many + 1, 1 << 31, 1 << 32, 1 << 63, 1<<63 + 1, math.MaxUint64 - 1, math.MaxUint64} {
		d := of(t)
		d.Arm(n, 0)
		for range many {
			holdSteps(t, d, sync("a", 0))
		}
		holdCalls(t, d, 5+many, false)
		if e := d.Sync("a"); n == many && e != api.ErrCrash || n > many && e != api.OK {
			t.Errorf("armed with %d: %d", n, e)
		}
	}
}

func TestArmedWhileDown(t *testing.T) {
	d := of(t)
	holdSteps(t, d, crash(0), arm(2, 1))
	for range 5 {
		holdSteps(t, d, put("a", "x", api.ErrCrash), sync("b", api.ErrCrash), rename("a", "b", api.ErrCrash), remove("", api.ErrCrash))
	}
	holdCalls(t, d, 5, true)
	holdFiles(t, d, "a=xyz| b=| c=|")
	holdSteps(t, d, up())
	holdCalls(t, d, 5, false)
	holdSteps(t, d, put("a", "uv", 0), put("b", "12", 0))
	holdFiles(t, d, "a=xyz|uv b=|12 c=|")
	holdSteps(t, d, sync("a", api.ErrCrash))
	holdFiles(t, d, "a=xyzu| b=1| c=|")
	holdCalls(t, d, 7, true)
	holdSteps(t, d, arm(0, 0), up(), sync("a", api.ErrCrash), sync("a", api.ErrCrash), up(), sync("a", 0))
	holdFiles(t, d, "a=xyzu| b=1| c=|")
	holdCalls(t, d, 8, false)
}

// What a disk is armed with takes the place of what it was armed with before, and counts from then on.
func TestArmedTwice(t *testing.T) {
	d := of(t)
	holdSteps(t, d, arm(0, 2), arm(2, 1), put("c", "3", 0), put("c", "4", 0), put("c", "5", api.ErrCrash))
	holdFiles(t, d, "a=xyzu| b=1| c=3|")
	d = of(t)
	holdSteps(t, d, arm(3, 0), put("c", "3", 0), put("c", "4", 0), arm(1, 2), put("c", "5", 0), put("c", "6", api.ErrCrash))
	holdFiles(t, d, "a=xyzuv| b=12| c=34|")
	d = of(t)
	holdSteps(t, d, arm(5, 5), put("c", "3", 0), arm(0, -1), put("c", "4", api.ErrCrash))
	holdFiles(t, d, "a=xyz| b=| c=|")
	d = of(t)
	holdSteps(t, d, crash(0), arm(0, 5), arm(1, 0), up(), put("c", "3", 0), put("c", "4", api.ErrCrash))
	holdFiles(t, d, "a=xyz| b=| c=|")
}

// A crash, whichever way it came, leaves the disk armed no more.
func TestACrashDisarms(t *testing.T) {
	for _, l := range [][]step{
		{arm(0, 0), sync("a", api.ErrCrash)}, {arm(0, 0), crash(0)}, {arm(1, 0), crash(0)}, {arm(2, 2), put("b", "", 0), crash(0)}, {crash(0), arm(0, 0), crash(0)}, {crash(0), arm(2, 0), sync("a", api.ErrCrash), crash(5)},
	} {
		d := of(t)
		holdSteps(t, d, l...)
		holdFiles(t, d, "a=xyz| b=| c=|")
		holdSteps(t, d, up())
		for i := range 10 {
			holdSteps(t, d, put("c", "0", 0))
			holdFiles(t, d, "a=xyz| b=| c=|"+strings.Repeat("0", i+1))
		}
	}
}

// A second crash finds nothing that is not sure, and keeps what the first one kept.
func TestCrashedTwice(t *testing.T) {
	for _, keep := range []int{0, -1, 1, 5, math.MaxInt} {
		d := of(t)
		holdSteps(t, d, crash(1), crash(keep))
		holdFiles(t, d, "a=xyzu| b=1| c=|")
		holdCalls(t, d, 5, true)
		holdSteps(t, d, up(), crash(keep))
		holdFiles(t, d, "a=xyzu| b=1| c=|")
		holdSteps(t, d, up(), put("a", "w", 0), arm(0, 0), sync("a", api.ErrCrash), crash(keep), up())
		holdFiles(t, d, "a=xyzu| b=1| c=|")
		holdCalls(t, d, 6, false)
	}
}

func TestUpAndDown(t *testing.T) {
	d := of(t)
	holdSteps(t, d, up(), up())
	holdFiles(t, d, "a=xyz|uv b=|12 c=|")
	holdCalls(t, d, 5, false)
	holdSteps(t, d, crash(0))
	holdCalls(t, d, 5, true)
	holdSteps(t, d, up())
	holdCalls(t, d, 5, false)
	holdSteps(t, d, arm(1, 0), up(), sync("a", 0))
	holdCalls(t, d, 6, false)
	holdSteps(t, d, up(), sync("a", api.ErrCrash))
	holdCalls(t, d, 6, true)
	holdSteps(t, d, up(), up(), sync("a", 0))
	holdCalls(t, d, 7, false)
}

func TestADiskThatIsDownIsAskedForEverything(t *testing.T) {
	d := of(t)
	d.Crash(1)
	for _, s := range append(calls(), put("none", "", 0), rename("a", "a", 0)) {
		if e := do(d, s); e != api.ErrCrash {
			t.Errorf("%+v: %d", s, e)
		}
		holdFiles(t, d, "a=xyzu| b=1| c=|")
		holdCalls(t, d, 5, true)
	}
	for _, s := range append([]string{"a", "b", "c", "none"}, noNames...) {
		if b, e := d.Read(s); e != api.ErrCrash || len(b) > 0 {
			t.Errorf("%q: %q, error %d", s, b, e)
		}
	}
	d.Up()
	holdFiles(t, d, "a=xyzu| b=1| c=|")
	holdSteps(t, d, put("b", "2", 0), sync("b", 0), rename("c", "d", 0), remove("a", 0))
	holdFiles(t, d, "b=12| d=|")
	holdCalls(t, d, 9, false)
}

func TestAnEmptyDiskCrashes(t *testing.T) {
	d := disk.New(10)
	holdSteps(t, d, arm(0, 5), put("a", "x", api.ErrCrash))
	holdFiles(t, d, "")
	holdCalls(t, d, 0, true)
	holdSteps(t, d, crash(1), up(), put("a", "x", 0))
	holdFiles(t, d, "a=|x")
	holdCalls(t, d, 1, false)
}

// P9.3: what is there

func TestNamesRiseByteByByte(t *testing.T) {
	want := []string{"-", "-a", "0", "0a", "9", "a", "a-", "a-.", "a.", "a0", "a00", "a9", "a:", "aa", "ab", "b", "az", "z", "zz"}
	slices.Sort(want)
	for turn := range len(want) {
		d := disk.New(1000)
		files := []string{}
		for i := range want {
			holdSteps(t, d, put(want[(i*7+turn)%len(want)], want[(i*7+turn)%len(want)], 0))
		}
		for _, s := range want {
			files = append(files, s+"=|"+s)
		}
		if got := d.List(); !slices.Equal(got, want) {
			t.Fatalf("names: %q", got)
		}
		holdFiles(t, d, strings.Join(files, " "))
	}
	if !slices.Equal(want[:13], []string{"-", "-a", "0", "0a", "9", "a", "a-", "a-.", "a.", "a0", "a00", "a9", "a:"}) {
		t.Error("the names are sorted otherwise than said:", want)
	}
}

func TestRead(t *testing.T) {
	d := of(t)
	for name, want := range map[string]string{"a": "xyzuv", "b": "12", "c": ""} {
		if b, e := d.Read(name); string(b) != want || e != api.OK {
			t.Errorf("%s: %q, error %d", name, b, e)
		}
	}
	for _, s := range append([]string{"d", "aa", name24}, noNames...) {
		if b, e := d.Read(s); e != api.ErrNone || len(b) > 0 {
			t.Errorf("%q: %q, error %d", s, b, e)
		}
	}
	holdCalls(t, d, 5, false)
}

func TestSizeAndCalls(t *testing.T) {
	d := disk.New(10)
	for i, x := range []struct {
		step
		size  int
		calls uint64
	}{
		{put("a", "123", 0), 3, 1}, {put("b", "", 0), 3, 2}, {put("b", "4567", 0), 7, 3}, {put("b", "89ab", api.ErrFull), 7, 4}, {put("", "8", api.ErrName), 7, 5},
		{sync("a", 0), 7, 6}, {sync("c", api.ErrNone), 7, 7}, {rename("b", "c", 0), 7, 8}, {arm(5, 0), 7, 8}, {crash(2), 5, 8}, {sync("a", api.ErrCrash), 5, 8}, {arm(1, 0), 5, 8},
		{up(), 5, 8}, {remove("c", 0), 3, 9}, {remove("a", api.ErrCrash), 3, 9}, {remove("a", api.ErrCrash), 3, 9}, {up(), 3, 9}, {rename("a", "A", api.ErrName), 3, 10}, {remove("a", 0), 0, 11},
	} {
		holdSteps(t, d, x.step)
		if d.Size() != x.size || d.Calls() != x.calls {
			t.Errorf("step %d: size %d, %d calls", i, d.Size(), d.Calls())
		}
	}
}

func TestNil(t *testing.T) {
	var d *disk.Disk
	for range 2 {
		for _, s := range append(calls(), put("A", "x", 0), rename("", "", 0)) {
			if e := do(d, s); e != api.ErrCrash {
				t.Errorf("%+v: %d", s, e)
			}
		}
		for _, s := range append([]string{"a"}, noNames...) {
			if b, e := d.Read(s); e != api.ErrCrash || len(b) > 0 {
				t.Errorf("%q: %q, error %d", s, b, e)
			}
		}
		if len(d.List()) > 0 || len(d.Files()) > 0 || d.Size() != 0 || d.Calls() != 0 || !d.Down() {
			t.Error("no disk has something")
		}
		d.Arm(0, 5)
		d.Crash(1)
		d.Up()
		d.Arm(math.MaxUint64, math.MinInt)
	}
}

// Two disks have nothing of each other.
func TestTwoDisks(t *testing.T) {
	one, other := of(t), of(t)
	holdSteps(t, one, put("a", "w", 0), sync("a", 0), remove("b", 0), arm(0, 0), sync("a", api.ErrCrash))
	holdFiles(t, other, "a=xyz|uv b=|12 c=|")
	holdCalls(t, other, 5, false)
	holdSteps(t, other, put("a", "0", 0))
	holdFiles(t, one, "a=xyzuvw| c=|")
}

// P9.4

// model is a disk that is a list of texts, put down from the chapter's words, with all its crashes in one place.
type model struct {
	capacity int
	l        []entry
	calls    uint64
	yet      []int // what the crash keeps, once for each call that is done yet, and once more
	down     bool
}

type entry struct {
	name, sure, rest string
}

func (m *model) at(name string) int {
	return slices.IndexFunc(m.l, func(e entry) bool { return e.name == name })
}

func (m *model) crash(keep int) {
	for i, e := range m.l {
		kept := ""
		for j := 0; j < keep && j < len(e.rest); j++ {
			kept += e.rest[j : j+1]
		}
		m.l[i] = entry{e.name, e.sure + kept, ""}
	}
	m.yet, m.down = nil, true
}

// call is the answer ahead of what a call of a kind does.
func (m *model) call(s step) api.Errno {
	if !m.down && len(m.yet) == 1 {
		m.crash(m.yet[0])
	}
	if m.down {
		return api.ErrCrash
	}
	m.calls++
	m.yet = m.yet[min(1, len(m.yet)):]
	if !targets.MatchString(s.name) || s.what == "rename" && !targets.MatchString(s.more) {
		return api.ErrName
	}
	if s.what != "append" && m.at(s.name) < 0 {
		return api.ErrNone
	}
	if s.what == "append" && m.at(s.name) < 0 && len(m.l) == 1024 {
		return api.ErrRoom
	}
	all := ""
	for _, e := range m.l {
		all += e.sure + e.rest
	}
	if s.what == "append" && len(all+s.more) > m.capacity {
		return api.ErrFull
	}
	return api.OK
}

func (m *model) do(s step) api.Errno {
	switch s.what {
	case "arm":
		m.yet = slices.Repeat([]int{s.keep}, int(s.n)+1)
		return api.OK
	case "crash":
		m.crash(s.keep)
		return api.OK
	case "up":
		m.down = false
		return api.OK
	}
	if e := m.call(s); e != api.OK {
		return e
	}
	i := m.at(s.name)
	switch {
	case s.what == "append" && i < 0:
		m.l = append(m.l, entry{s.name, "", s.more})
	case s.what == "append":
		m.l[i].rest += s.more
	case s.what == "sync":
		m.l[i] = entry{s.name, m.l[i].sure + m.l[i].rest, ""}
	case s.what == "remove":
		m.l = slices.Delete(m.l, i, i+1)
	case s.name != s.more:
		e := entry{s.more, m.l[i].sure, m.l[i].rest}
		m.l = slices.DeleteFunc(m.l, func(x entry) bool { return x.name == s.name || x.name == s.more })
		m.l = append(m.l, e)
	}
	return api.OK
}

func (m *model) told() string {
	slices.SortFunc(m.l, func(a, b entry) int { return strings.Compare(a.name, b.name) })
	s := []string{}
	for _, e := range m.l {
		s = append(s, e.name+"="+e.sure+"|"+e.rest)
	}
	return strings.Join(s, " ")
}

// someStep is a call in most cases, of a name that is one in most cases.
func someStep(next func() uint64) step {
	names := []string{"a", "b", "c", "a", "b", "c", "a", "b", "c", "d.:-", name24, name25, "A", ""}
	name, other := names[next()%uint64(len(names))], names[next()%uint64(len(names))]
	keep := []int{0, 0, 1, 2, 3, 5, -1, math.MinInt, math.MaxInt}[next()%9]
	switch next() % 24 {
	case 0:
		return crash(keep)
	case 1, 2:
		return arm(next()%7, keep)
	case 3, 4, 5:
		return up()
	case 6, 7:
		return remove(name, 0)
	case 8, 9, 10:
		return rename(name, other, 0)
	case 11, 12, 13, 14, 15:
		return sync(name, 0)
	}
	return put(name, "0123456789"[next()%5:][:next()%6], 0)
}

func TestDisksAsTheChapterSays(t *testing.T) {
	next := noise()
	answers := map[api.Errno]int{}
	for range 2000 {
		capacity := int(next()%30) - 2
		d, m := disk.New(capacity), &model{capacity: max(capacity, 0)}
		for range 60 {
			s := someStep(next)
			want := m.do(s)
			if got := do(d, s); got != want {
				t.Fatalf("%+v: %d, not %d", s, got, want)
			}
			holdFiles(t, d, m.told())
			holdCalls(t, d, m.calls, m.down)
			answers[want]++
		}
	}
	for _, e := range []api.Errno{api.OK, api.ErrCrash, api.ErrName, api.ErrNone, api.ErrFull} {
		if answers[e] < 1000 {
			t.Errorf("error %d came %d times", e, answers[e])
		}
	}
}

// sureOf is each file's sure bytes, by names.
func sureOf(d *disk.Disk) map[string]string {
	m := map[string]string{}
	for _, f := range d.Files() {
		m[f.Name] = string(f.Data[:f.Sure])
	}
	return m
}

// What is sure is looked for behind each step, under the name that it has then.
func TestWhatIsSureIsNotLost(t *testing.T) {
	next := noise()
	for range 1000 {
		d := disk.New(40)
		for range 60 {
			s, before := someStep(next), sureOf(d)
			e := do(d, s)
			if e == api.OK && s.what == "remove" {
				delete(before, s.name)
			}
			if e == api.OK && s.what == "rename" {
				b := before[s.name]
				delete(before, s.name)
				before[s.more] = b
			}
			after := sureOf(d)
			for name, b := range before {
				got, is := after[name]
				if !is || !strings.HasPrefix(got, b) {
					t.Fatalf("%+v: of %s, %q, is left %q", s, name, b, got)
				}
			}
		}
	}
}

// Each file is there behind a crash, with a beginning of its bytes, as long as is said, all of which are sure.
func TestACrashLeavesBeginnings(t *testing.T) {
	next := noise()
	for range 3000 {
		d := disk.New(1000)
		for range next() % 40 {
			if s := someStep(next); s.what != "arm" && s.what != "crash" {
				do(d, s)
			}
		}
		keep := int(next()%8) - 1
		before := d.Files()
		d.Crash(keep)
		after := d.Files()
		if len(after) != len(before) {
			t.Fatalf("of %q is left %q", told(before), told(after))
		}
		for i, f := range after {
			long := min(before[i].Sure+max(keep, 0), len(before[i].Data))
			if f.Name != before[i].Name || f.Sure != long || !bytes.Equal(f.Data, before[i].Data[:long]) {
				t.Fatalf("with %d: of %q is left %q", keep, told(before), told(after))
			}
		}
	}
}

// Rules 3 and 4: what is handed in, what is answered

func TestBytesHandedInAreNotChangedOrKept(t *testing.T) {
	d := disk.New(100)
	room := []byte("xyz......")
	for _, name := range []string{"a", "b", "a"} {
		if d.Append(name, room[:3]) != api.OK {
			t.Fatal("it is refused")
		}
	}
	holdSteps(t, d, put("b", "w", 0), put("a", "w", 0))
	if string(room) != "xyz......" {
		t.Errorf("what was handed in is changed: %q", room)
	}
	copy(room, "012345678")
	holdFiles(t, d, "a=|xyzxyzw b=|xyzw")
}

// spoil changes all that an answer has, and the room behind it.
func spoil(b []byte) {
	b = b[:cap(b)]
	for i := range b {
		b[i] = '!'
	}
}

func TestAnswersShareNoMemoryWithTheDisk(t *testing.T) {
	d := of(t)
	for range 3 {
		b, _ := d.Read("a")
		_ = append(b[:1], "???????????"...)
		spoil(b)
		empty, _ := d.Read("c")
		spoil(empty)
		names, files := d.List(), d.Files()
		for i, f := range files {
			spoil(f.Data)
			files[i].Name, files[i].Sure, files[i].Data = "z", 9, nil
		}
		for i := range names {
			names[i] = "z"
		}
		holdFiles(t, d, "a=xyz|uv b=|12 c=|")
		holdSteps(t, d, put("a", "", 0), put("c", "", 0))
	}
	holdSteps(t, d, put("c", "3", 0), put("a", "w", 0))
	holdFiles(t, d, "a=xyz|uvw b=|12 c=|3")
}

// What was answered stays as it was, whatever is done with the disk behind it: also where a crash cut off, and other bytes came there.
func TestAnswersStayAsTheyWere(t *testing.T) {
	d := of(t)
	b, _ := d.Read("a")
	files, names := d.Files(), d.List()
	holdSteps(t, d, crash(0), up(), put("a", "UV", 0), put("b", "34", 0), put("c", "5", 0), sync("a", 0), rename("a", "d", 0), remove("b", 0))
	holdFiles(t, d, "c=|5 d=xyzUV|")
	if string(b) != "xyzuv" || told(files) != "a=xyz|uv b=|12 c=|" || !slices.Equal(names, []string{"a", "b", "c"}) {
		t.Errorf("what was answered is another: %q, %q, %q", b, told(files), names)
	}
}

func TestTwoAnswersShareNoMemory(t *testing.T) {
	d := of(t)
	files, again := d.Files(), d.Files()
	one, _ := d.Read("a")
	other, _ := d.Read("a")
	spoil(files[0].Data)
	if told(again) != "a=xyz|uv b=|12 c=|" || string(files[1].Data) != "12" || string(one) != "xyzuv" {
		t.Errorf("two answers share memory: %q, %q, %q", told(again), files[1].Data, one)
	}
	spoil(one)
	if string(other) != "xyzuv" || told(again) != "a=xyz|uv b=|12 c=|" {
		t.Errorf("two answers share memory: %q, %q", other, told(again))
	}
	names, more := d.List(), d.List()
	names[0] = "z"
	if more[0] != "a" {
		t.Error("two lists of names share memory")
	}
}

// What is answered hangs on what is there, not on how it came there.
func TestTheSameFilesAreTheSameAnswers(t *testing.T) {
	one, other := disk.New(10), disk.New(10)
	holdSteps(t, one, put("a", "", 0), put("b", "xy", 0), sync("b", 0), sync("a", 0))
	holdSteps(t, other, put("b", "xy", 0), put("a", "uvw", 0), crash(0), up(), put("b", "xy", 0), sync("b", 0))
	if told(one.Files()) != told(other.Files()) {
		t.Fatal(told(one.Files()), told(other.Files()))
	}
	for i, f := range one.Files() {
		if g := other.Files()[i]; (f.Data == nil) != (g.Data == nil) {
			t.Errorf("%s: %#v, %#v", f.Name, f.Data, g.Data)
		}
		b, _ := one.Read(f.Name)
		c, _ := other.Read(f.Name)
		if (b == nil) != (c == nil) {
			t.Errorf("%s is read as %#v, %#v", f.Name, b, c)
		}
	}
}
