package crash_test

import (
	"bytes"
	"fmt"
	"math"
	"reflect"
	"slices"
	"strings"
	"testing"

	"taximeter/api"
	"taximeter/crash"
	"taximeter/disk"
)

const capacity = 20

// noNames may be the name of no file.
var noNames = []string{"", ".", ":a", "A", "aB", "a b", "a_b", "a/b", "a\n", "a\x00", "é", "\xff", "a-name.of-25.letters:8080", strings.Repeat("a", 100)}

// noKinds are nothing.
var noKinds = []int{0, 5, 6, 9, 100, 1 << 8, 1<<8 + 1, 1<<16 + 2, 1<<32 + 3, 1<<32 + 4, -1, -2, -3, -4, -5, math.MinInt, math.MinInt + 1, math.MaxInt, math.MaxInt - 1}

// farPlaces are more than any work here has calls.
var farPlaces = []uint64{1000, 1 << 31, 1 << 32, 1 << 63, 1<<63 + 1, math.MaxUint64 - 1, math.MaxUint64}

var keeps = []int{math.MinInt, math.MinInt + 1, -7, -1, 0, 1, 2, 3, 4, 5, 100, math.MaxInt - 1, math.MaxInt}

// noise makes numbers of all bits, ever the same ones.
func noise() func() uint64 {
	x := uint64(88172645463325252)
	return func() uint64 {
		x ^= x << 13
		x ^= x >> 7
		x ^= x << 17
		return x * 2685821657736338717
	}
}

func put(name, b string) crash.Op     { return crash.Op{Kind: 1, Name: name, Data: []byte(b)} }
func sync(name string) crash.Op       { return crash.Op{Kind: 2, Name: name} }
func rename(from, to string) crash.Op { return crash.Op{Kind: 3, Name: from, To: to} }
func remove(name string) crash.Op     { return crash.Op{Kind: 4, Name: name} }

// nothing would be a call of any kind, if it were of one.
func nothing(kind int) crash.Op {
	return crash.Op{Kind: kind, Name: "a", To: "b", Data: []byte("!")}
}

// step is a call, what it answers, and the files behind it.
type step struct {
	op    crash.Op
	want  api.Errno
	files string
}

// steps are calls of each kind, some of which are refused, on a disk of that capacity.
func steps() []step {
	return []step{
		{put("a", "xyz"), 0, "a=|xyz"},
		{sync("a"), 0, "a=xyz|"},
		{put("a", "uv"), 0, "a=xyz|uv"},
		{put("b", "1234"), 0, "a=xyz|uv b=|1234"},
		{sync("c"), api.ErrNone, "a=xyz|uv b=|1234"},
		{put("c", ""), 0, "a=xyz|uv b=|1234 c=|"},
		{put("d", "0123456789ab"), api.ErrFull, "a=xyz|uv b=|1234 c=|"},
		{put("A", "x"), api.ErrName, "a=xyz|uv b=|1234 c=|"},
		{rename("a", "d"), 0, "b=|1234 c=| d=xyz|uv"},
		{rename("a", "d"), api.ErrNone, "b=|1234 c=| d=xyz|uv"},
		{put("d", "w"), 0, "b=|1234 c=| d=xyz|uvw"},
		{rename("d", "b"), 0, "b=xyz|uvw c=|"},
		{sync("."), api.ErrName, "b=xyz|uvw c=|"},
		{remove("d"), api.ErrNone, "b=xyz|uvw c=|"},
		{sync("b"), 0, "b=xyzuvw| c=|"},
		{put("a", "hi"), 0, "a=|hi b=xyzuvw| c=|"},
		{rename("b", "B"), api.ErrName, "a=|hi b=xyzuvw| c=|"},
		{remove("c"), 0, "a=|hi b=xyzuvw|"},
		{put("b", "0123456789ab"), 0, "a=|hi b=xyzuvw|0123456789ab"},
		{put("a", "!"), api.ErrFull, "a=|hi b=xyzuvw|0123456789ab"},
		{rename("b", "b"), 0, "a=|hi b=xyzuvw|0123456789ab"},
		{remove(""), api.ErrName, "a=|hi b=xyzuvw|0123456789ab"},
		{sync("a"), 0, "a=hi| b=xyzuvw|0123456789ab"},
		{remove("b"), 0, "a=hi|"},
		{put("a", "!"), 0, "a=hi|!"},
	}
}

func opsOf(l []step) []crash.Op {
	ops := []crash.Op{}
	for _, s := range l {
		ops = append(ops, s.op)
	}
	return ops
}

func wantsOf(l []step) []api.Errno {
	wants := []api.Errno{}
	for _, s := range l {
		wants = append(wants, s.want)
	}
	return wants
}

// filesOf is what is there behind the first n steps.
func filesOf(l []step, n int) string {
	if n == 0 {
		return ""
	}
	return l[n-1].files
}

// left is what a crash leaves of files that are told so.
func left(files string, keep int) string {
	l := strings.Fields(files)
	for i, f := range l {
		sure, rest, _ := strings.Cut(f, "|")
		l[i] = sure + rest[:min(max(keep, 0), len(rest))] + "|"
	}
	return strings.Join(l, " ")
}

// told is the files as a text: of each its name, its sure bytes, and the others behind a bar.
func told(l []api.File) string {
	s := []string{}
	for _, f := range l {
		s = append(s, f.Name+"="+string(f.Data[:f.Sure])+"|"+string(f.Data[f.Sure:]))
	}
	return strings.Join(s, " ")
}

func holdDisk(t *testing.T, d *disk.Disk, files string, calls int, down bool) {
	t.Helper()
	if got := told(d.Files()); got != files {
		t.Fatalf("files: %q, not %q", got, files)
	}
	if d.Calls() != uint64(calls) || d.Down() != down {
		t.Fatalf("%d calls, down: %v, not %d, %v", d.Calls(), d.Down(), calls, down)
	}
}

func holdRun(t *testing.T, d *disk.Disk, l []crash.Op, want []api.Errno, crashed bool) {
	t.Helper()
	if a, is := crash.Run(d, l); !slices.Equal(a, want) || is != crashed {
		t.Fatalf("%v, %v, not %v, %v", a, is, want, crashed)
	}
}

func holdMust(t *testing.T, d *disk.Disk, l []crash.Op, want api.Errno) {
	t.Helper()
	if e := crash.Must(d, l); e != want {
		t.Fatalf("%d, not %d", e, want)
	}
}

func holdCalls(t *testing.T, l []crash.Op, want int) {
	t.Helper()
	if n := crash.Calls(l); n != want {
		t.Fatalf("%d calls, not %d", n, want)
	}
}

func holdAt(t *testing.T, capacity int, l []crash.Op, place uint64, keep int, want string) {
	t.Helper()
	if got := told(crash.At(capacity, l, place, keep)); got != want {
		t.Fatalf("at %d, keeping %d: %q, not %q", place, keep, got, want)
	}
}

// mixed is the work with nothing of some kind at each end and between all calls.
func mixed(l []crash.Op) []crash.Op {
	m := []crash.Op{}
	for i := range len(l) + 1 {
		for j := range i%3 + 1 {
			m = append(m, nothing(noKinds[(i+j)%len(noKinds)]))
		}
		if i < len(l) {
			m = append(m, l[i])
		}
	}
	return m
}

// noWork are lists that have no call.
func noWork() [][]crash.Op {
	l := [][]crash.Op{nil, {}, make([]crash.Op, 0, 5), {{}}, {{}, {}, {}}, mixed(nil)}
	all := []crash.Op{}
	for _, kind := range noKinds {
		all = append(all, nothing(kind))
		l = append(l, []crash.Op{nothing(kind)})
	}
	return append(l, all, opsOf(steps())[:0])
}

// P10.1: Run

func TestRunToTheEnd(t *testing.T) {
	all := steps()
	for n := range len(all) + 1 {
		d := disk.New(capacity)
		holdRun(t, d, opsOf(all[:n]), wantsOf(all[:n]), false)
		holdDisk(t, d, filesOf(all, n), n, false)
	}
}

func TestRunOneByOne(t *testing.T) {
	d := disk.New(capacity)
	for i, s := range steps() {
		holdRun(t, d, []crash.Op{s.op}, []api.Errno{s.want}, false)
		holdDisk(t, d, s.files, i+1, false)
	}
}

func TestRunCrashesAtEachPlace(t *testing.T) {
	all := steps()
	for n := range all {
		for _, keep := range keeps {
			for _, l := range [][]crash.Op{opsOf(all), opsOf(all[:n+1]), mixed(opsOf(all))} {
				d := disk.New(capacity)
				d.Arm(uint64(n), keep)
				holdRun(t, d, l, wantsOf(all[:n]), true)
				holdDisk(t, d, left(filesOf(all, n), keep), n, true)
				d.Up()
				holdDisk(t, d, left(filesOf(all, n), keep), n, false)
			}
		}
	}
}

// A disk that is armed with as many calls as there are, or more, does all of them, and crashes by those that come behind.
func TestRunOnADiskThatIsArmedBehindTheWork(t *testing.T) {
	all := steps()
	for _, l := range [][]crash.Op{opsOf(all), mixed(opsOf(all))} {
		for more := range 5 {
			d := disk.New(capacity)
			d.Arm(uint64(len(all)+more), 0)
			holdRun(t, d, l, wantsOf(all), false)
			holdDisk(t, d, "a=hi|!", len(all), false)
			next := []crash.Op{sync("none"), put("a", "?"), sync("none"), put("B", ""), put("c", ""), put("d", "")}
			holdRun(t, d, next, []api.Errno{api.ErrNone, 0, api.ErrNone, api.ErrName, 0}[:more], true)
			if got := d.Files()[0]; d.Calls() != uint64(len(all)+more) || string(got.Data) != "hi" {
				t.Fatal(d.Calls(), got)
			}
		}
		for _, n := range farPlaces {
			d := disk.New(capacity)
			d.Arm(n, 0)
			holdRun(t, d, l, wantsOf(all), false)
			holdDisk(t, d, "a=hi|!", len(all), false)
		}
	}
}

// One call of each kind crashes, on a disk that has what it asks for, and is not done.
func TestEachKindCrashes(t *testing.T) {
	first := []crash.Op{put("a", "xyz"), sync("a"), put("a", "uv"), put("b", "12")}
	for _, op := range []crash.Op{put("a", "w"), put("a", ""), put("c", "w"), sync("a"), sync("b"), rename("a", "b"), rename("b", "c"), rename("a", "a"), remove("a"), remove("b"), put("A", "w"), put("a", strings.Repeat("w", 30)), sync("c"), sync(""), rename("c", "a"), rename("a", "C"), remove("c"), remove(":")} {
		for _, behind := range [][]crash.Op{nil, {sync("b")}, {remove("a"), put("c", "")}} {
			d := disk.New(capacity)
			d.Arm(4, 1)
			holdRun(t, d, slices.Concat(first, []crash.Op{op}, behind), []api.Errno{0, 0, 0, 0}, true)
			holdDisk(t, d, "a=xyzu| b=1|", 4, true)
		}
	}
}

func TestRunOnADiskThatIsDown(t *testing.T) {
	for _, l := range [][]crash.Op{opsOf(steps()), mixed(opsOf(steps())), {sync("a")}, {put("a", "x")}, {nothing(0), rename("a", "b")}, {remove("a")}, {put("A", "")}, {sync("none")}, {remove("")}} {
		d := disk.New(capacity)
		holdRun(t, d, []crash.Op{put("a", "xyz"), sync("a"), put("a", "uv")}, []api.Errno{0, 0, 0}, false)
		d.Crash(1)
		for range 3 {
			holdRun(t, d, l, nil, true)
			holdDisk(t, d, "a=xyzu|", 3, true)
		}
		d.Up()
		holdRun(t, d, []crash.Op{put("a", "w"), sync("b")}, []api.Errno{0, api.ErrNone}, false)
		holdDisk(t, d, "a=xyzu|w", 5, false)
		d = disk.New(capacity)
		d.Crash(5)
		holdRun(t, d, l, nil, true)
		holdDisk(t, d, "", 0, true)
	}
}

func TestRunOnADiskThatWasArmedWhileDown(t *testing.T) {
	all := steps()
	d := disk.New(capacity)
	d.Crash(0)
	d.Arm(4, 2)
	holdRun(t, d, opsOf(all), nil, true)
	d.Up()
	holdRun(t, d, opsOf(all), wantsOf(all[:4]), true)
	holdDisk(t, d, "a=xyzuv| b=12|", 4, true)
}

// A crash disarms: what is run behind it goes on with what is left, and to its end.
func TestRunBehindACrash(t *testing.T) {
	d := disk.New(capacity)
	d.Arm(1, 1)
	holdRun(t, d, []crash.Op{put("a", "xyz"), sync("a"), put("b", "")}, []api.Errno{0}, true)
	holdRun(t, d, []crash.Op{put("b", ""), sync("a")}, nil, true)
	d.Up()
	holdRun(t, d, []crash.Op{put("a", "uv"), put("b", ""), sync("b"), sync("c")}, []api.Errno{0, 0, 0, api.ErrNone}, false)
	holdDisk(t, d, "a=x|uv b=|", 5, false)
}

func TestRunOnNoDisk(t *testing.T) {
	for _, l := range [][]crash.Op{opsOf(steps()), {put("a", "")}, {sync("a")}, {rename("a", "b")}, {remove("a")}, {nothing(9), put("A", "x")}, {put("", "")}} {
		holdRun(t, nil, l, nil, true)
	}
	for _, l := range noWork() {
		holdRun(t, nil, l, nil, false)
	}
}

// What has no call crashes nothing, and is not crashed.
func TestRunWithoutCalls(t *testing.T) {
	for _, l := range noWork() {
		d := disk.New(capacity)
		holdRun(t, d, []crash.Op{put("a", "xyz")}, []api.Errno{0}, false)
		d.Arm(0, 5)
		holdRun(t, d, l, nil, false)
		holdDisk(t, d, "a=|xyz", 1, false)
		d.Crash(1)
		holdRun(t, d, l, nil, false)
		holdDisk(t, d, "a=x|", 1, true)
	}
}

func TestRunWithNothingBetween(t *testing.T) {
	all := steps()
	d := disk.New(capacity)
	holdRun(t, d, mixed(opsOf(all)), wantsOf(all), false)
	holdDisk(t, d, "a=hi|!", len(all), false)
	for _, kind := range noKinds {
		d := disk.New(capacity)
		holdRun(t, d, []crash.Op{nothing(kind), put("a", "x"), nothing(kind), nothing(kind), remove("b"), nothing(kind)}, []api.Errno{0, api.ErrNone}, false)
		holdDisk(t, d, "a=|x", 2, false)
	}
}

func TestRunWithNamesThatAreNone(t *testing.T) {
	for _, s := range noNames {
		d := disk.New(capacity)
		l := []crash.Op{put("a", "x"), put(s, "x"), put(s, ""), sync(s), rename(s, "a"), rename("a", s), rename(s, s), remove(s), sync("a")}
		e := api.ErrName
		holdRun(t, d, l, []api.Errno{0, e, e, e, e, e, e, e, 0}, false)
		holdDisk(t, d, "a=x|", 9, false)
	}
}

func TestRunWithFilesThatAreNotThere(t *testing.T) {
	for _, s := range []string{"b", "aa", "0", "-", "a-name.of-24.letters:443"} {
		d := disk.New(capacity)
		e := api.ErrNone
		holdRun(t, d, []crash.Op{sync(s), rename(s, "a"), put("a", "x"), sync(s), rename(s, "a"), rename(s, s), remove(s), put("a", "y")}, []api.Errno{e, e, 0, e, e, e, e, 0}, false)
		holdDisk(t, d, "a=|xy", 8, false)
	}
}

func TestRunOnAFullDisk(t *testing.T) {
	for _, c := range []int{0, -1, math.MinInt} {
		d := disk.New(c)
		holdRun(t, d, []crash.Op{put("a", "x"), put("a", ""), put("a", "x"), sync("a")}, []api.Errno{api.ErrFull, 0, api.ErrFull, 0}, false)
		holdDisk(t, d, "a=|", 4, false)
	}
	d := disk.New(5)
	holdRun(t, d, []crash.Op{put("a", "xyz"), put("b", "123"), put("b", "12"), put("a", "u"), remove("a"), put("c", "uvw"), put("c", "x")}, []api.Errno{0, api.ErrFull, 0, api.ErrFull, 0, 0, api.ErrFull}, false)
	holdDisk(t, d, "b=|12 c=|uvw", 7, false)
}

func TestRunWithTooManyFiles(t *testing.T) {
	l, want := []crash.Op{}, []api.Errno{}
	for i := range api.MaxFiles {
		l, want = append(l, put(fmt.Sprintf("f%d", i), "")), append(want, api.OK)
	}
	d := disk.New(capacity)
	holdRun(t, d, append(l, put("a", "x"), put("f0", "x"), remove("f1"), put("a", "y")), append(want, api.ErrRoom, 0, 0, 0), false)
	if len(d.List()) != api.MaxFiles || d.Size() != 2 {
		t.Error(len(d.List()), d.Size())
	}
	d = disk.New(capacity)
	holdMust(t, d, append(l, put("a", "x"), put("f0", "x")), api.ErrRoom)
	if len(d.List()) != api.MaxFiles || d.Size() != 0 {
		t.Error(len(d.List()), d.Size())
	}
}

func TestLongWork(t *testing.T) {
	const many = 70000 // more than 16 bits tell
	l, want := []crash.Op{}, []api.Errno{}
	for i := range many {
		if i%7 == 3 {
			l, want = append(l, sync("b"), nothing(i+5)), append(want, api.ErrNone)
		} else {
			l, want = append(l, put("a", "x")), append(want, api.OK)
		}
	}
	d := disk.New(many)
	holdRun(t, d, l, want, false)
	holdCalls(t, l, many)
	for _, place := range []int{0, 1, 3, 4, 65535, 65536, many - 1} {
		d := disk.New(many)
		d.Arm(uint64(place), many)
		holdRun(t, d, l, want[:place], true)
		if f := crash.At(many, l, uint64(place), many); !reflect.DeepEqual(f, d.Files()) {
			t.Errorf("at %d: %d files", place, len(f))
		}
	}
	holdMust(t, disk.New(many), l, api.ErrNone)
}

// A kind heeds none of the fields that are not its own.
func TestFieldsThatAKindDoesNotHave(t *testing.T) {
	l := []crash.Op{
		{Kind: 1, Name: "a", To: "b", Data: []byte("xyz")},
		{Kind: 2, Name: "a", To: "b", Data: []byte("0123456789012345678901234")},
		{Kind: 1, Name: "a", To: "A", Data: []byte("uv")},
		{Kind: 3, Name: "a", To: "c", Data: []byte("0123456789012345678901234")},
		{Kind: 1, Name: "b", To: "c"},
		{Kind: 4, Name: "b", To: "c", Data: []byte("!")},
		{Kind: 4, Name: "b", To: ".", Data: []byte("!")},
		{Kind: 2, Name: "b", To: "", Data: []byte("!")},
	}
	d := disk.New(capacity)
	holdRun(t, d, l, []api.Errno{0, 0, 0, 0, 0, 0, api.ErrNone, api.ErrNone}, false)
	holdDisk(t, d, "c=xyz|uv", 8, false)
}

// P10.1: Calls

func TestCalls(t *testing.T) {
	all := opsOf(steps())
	for n := range len(all) + 1 {
		holdCalls(t, all[:n], n)
		holdCalls(t, mixed(all[:n]), n)
	}
	for _, l := range noWork() {
		holdCalls(t, l, 0)
	}
	for _, kind := range noKinds {
		holdCalls(t, []crash.Op{nothing(kind), sync("a"), nothing(kind)}, 1)
	}
	for kind := -300; kind <= 300; kind++ {
		want := 0
		if kind == 1 || kind == 2 || kind == 3 || kind == 4 {
			want = 1
		}
		holdCalls(t, []crash.Op{{Kind: kind}}, want)
		holdCalls(t, []crash.Op{nothing(kind)}, want)
		holdCalls(t, []crash.Op{sync("a"), nothing(kind), nothing(kind), sync("")}, 2+2*want)
		if a, _ := crash.Run(disk.New(capacity), []crash.Op{nothing(kind)}); len(a) != want {
			t.Errorf("kind %d: %v", kind, a)
		}
	}
}

// Calls that would be refused are calls.
func TestCallsOfWorkThatIsRefused(t *testing.T) {
	for _, s := range noNames {
		holdCalls(t, []crash.Op{put(s, ""), sync(s), rename(s, s), remove(s), rename("a", s)}, 5)
	}
	holdCalls(t, []crash.Op{sync("none"), put("a", strings.Repeat("x", 10000)), remove("none"), rename("none", "none")}, 4)
}

// P10.2: At

func TestExample(t *testing.T) {
	l := []crash.Op{put("a", "x"), sync("a")}
	f := crash.At(capacity, l, 1, 0)
	if len(f) != 1 || f[0].Name != "a" || len(f[0].Data) != 0 || f[0].Sure != 0 {
		t.Error(f)
	}
	holdAt(t, capacity, l, 0, 0, "")
	holdAt(t, capacity, l, 1, 1, "a=x|")
	holdAt(t, capacity, l, 2, 0, "a=x|")
}

func TestAtEachPlace(t *testing.T) {
	all := steps()
	for n := range len(all) + 1 {
		for _, keep := range keeps {
			want := left(filesOf(all, n), keep)
			holdAt(t, capacity, opsOf(all), uint64(n), keep, want)
			holdAt(t, capacity, mixed(opsOf(all)), uint64(n), keep, want)
			holdAt(t, capacity, opsOf(all[:n]), uint64(n), keep, want)
			holdAt(t, capacity, opsOf(all[:n]), uint64(n+1), keep, want)
			for _, place := range farPlaces {
				holdAt(t, capacity, mixed(opsOf(all[:n])), place, keep, want)
			}
		}
	}
}

// What is kept is so of each file.
func TestKeptBytes(t *testing.T) {
	l := []crash.Op{put("a", "xyz"), sync("a"), put("a", "uv"), put("b", "1234"), put("c", ""), put("d", "5"), sync("d"), sync("none")}
	for _, x := range []struct {
		keep  int
		files string
	}{
		{math.MinInt, "a=xyz| b=| c=| d=5|"}, {-1, "a=xyz| b=| c=| d=5|"}, {0, "a=xyz| b=| c=| d=5|"}, {1, "a=xyzu| b=1| c=| d=5|"}, {2, "a=xyzuv| b=12| c=| d=5|"},
		{3, "a=xyzuv| b=123| c=| d=5|"}, {4, "a=xyzuv| b=1234| c=| d=5|"}, {5, "a=xyzuv| b=1234| c=| d=5|"}, {math.MaxInt, "a=xyzuv| b=1234| c=| d=5|"},
	} {
		for _, place := range []uint64{7, 8, 9, math.MaxUint64} {
			holdAt(t, capacity, l, place, x.keep, x.files)
		}
	}
	holdAt(t, capacity, l, 6, 0, "a=xyz| b=| c=| d=|")
	holdAt(t, capacity, l, 6, 1, "a=xyzu| b=1| c=| d=5|")
	holdAt(t, capacity, l, 3, 1, "a=xyzu|")
	holdAt(t, capacity, l, 2, 1, "a=xyz|")
	holdAt(t, capacity, l, 1, 1, "a=x|")
	holdAt(t, capacity, l, 0, 1, "")
}

func TestCapacity(t *testing.T) {
	l := []crash.Op{put("a", "xyz"), put("b", "12"), sync("a"), sync("b"), put("c", ""), put("a", "w")}
	for _, x := range []struct {
		capacity int
		files    string
	}{
		{math.MinInt, "c=|"}, {-1, "c=|"}, {0, "c=|"}, {1, "a=w| c=|"}, {2, "b=12| c=|"}, {3, "a=xyz| c=|"}, {4, "a=xyzw| c=|"},
		{5, "a=xyz| b=12| c=|"}, {6, "a=xyzw| b=12| c=|"}, {7, "a=xyzw| b=12| c=|"}, {math.MaxInt, "a=xyzw| b=12| c=|"},
	} {
		for _, place := range []uint64{6, 7, math.MaxUint64} {
			holdAt(t, x.capacity, l, place, 5, x.files)
		}
		holdAt(t, x.capacity, l, 0, 5, "")
	}
	fits := []crash.Op{put("a", strings.Repeat("x", 10)), sync("a")}
	holdAt(t, 10, fits, 2, 0, "a=xxxxxxxxxx|")
	holdAt(t, 9, fits, 2, 0, "")
	holdAt(t, 9, append(fits, put("a", "")), 3, 0, "a=|")
	holdAt(t, 10, append(fits, put("a", "y"), put("b", "")), 4, 9, "a=xxxxxxxxxx| b=|")
	holdAt(t, 11, append(fits, put("a", "y"), put("b", "")), 4, 9, "a=xxxxxxxxxxy| b=|")
}

// A call that is refused takes a place.
func TestAtARefusedCall(t *testing.T) {
	for _, no := range []crash.Op{put("A", "x"), put("a", strings.Repeat("x", 30)), sync("none"), sync(""), rename("none", "a"), rename("a", "A"), rename(".", "a"), remove("none"), remove("\xff")} {
		l := []crash.Op{put("a", "xy"), no, sync("a"), put("a", "z")}
		for place, want := range []string{"", "a=x|", "a=x|", "a=xy|", "a=xyz|", "a=xyz|"} {
			holdAt(t, capacity, l, uint64(place), 1, want)
			holdAt(t, capacity, mixed(l), uint64(place), 1, want)
		}
		l = []crash.Op{no, no, put("a", "xy"), no}
		for place, want := range []string{"", "", "", "a=x|", "a=x|", "a=x|"} {
			holdAt(t, capacity, l, uint64(place), 1, want)
		}
	}
}

func TestAtWithoutCalls(t *testing.T) {
	for _, l := range noWork() {
		for _, c := range []int{math.MinInt, 0, capacity} {
			for _, place := range append([]uint64{0, 1, 2}, farPlaces...) {
				if f := crash.At(c, l, place, 5); len(f) > 0 {
					t.Error(f)
				}
			}
		}
	}
}

// Each call has a disk of its own.
func TestAtTwice(t *testing.T) {
	l := []crash.Op{put("a", "xyz"), sync("a"), remove("b"), put("b", "12")}
	for range 3 {
		holdAt(t, capacity, l, 4, 1, "a=xyz| b=1|")
		holdAt(t, capacity, l, 1, 1, "a=x|")
	}
}

// P10.3: Must

func TestMust(t *testing.T) {
	all := steps()
	d := disk.New(capacity)
	holdMust(t, d, opsOf(all), api.ErrNone)
	holdDisk(t, d, all[4].files, 5, false)
	for i, s := range all {
		l, done := []crash.Op{}, []step{}
		for j, s := range all[:i] {
			if s.want == api.OK {
				l, done = append(l, s.op), append(done, all[j])
			}
		}
		d := disk.New(capacity)
		holdMust(t, d, l, api.OK)
		holdDisk(t, d, filesOf(done, len(done)), len(done), false)
		d = disk.New(capacity)
		holdMust(t, d, mixed(append(l, s.op)), s.want)
		holdDisk(t, d, s.files, len(done)+1, false)
	}
}

// refused are calls that a disk of that capacity refuses, if it has a.
func refused() []step {
	l := []step{{op: put("a", strings.Repeat("x", capacity+1)), want: api.ErrFull}, {op: put("n", strings.Repeat("x", capacity+1)), want: api.ErrFull}, {op: sync("none"), want: api.ErrNone}, {op: rename("none", "a"), want: api.ErrNone}, {op: rename("none", "none"), want: api.ErrNone}, {op: remove("none"), want: api.ErrNone}}
	for _, s := range noNames {
		for _, op := range []crash.Op{put(s, "x"), put(s, ""), sync(s), rename(s, "a"), rename("a", s), remove(s)} {
			l = append(l, step{op: op, want: api.ErrName})
		}
	}
	return l
}

// What is behind the first call that is refused is not done, and begins nothing.
func TestMustEndsAtARefusedCall(t *testing.T) {
	good := []step{{put("a", "x"), 0, "a=|x"}, {sync("a"), 0, "a=x|"}, {put("a", "yz"), 0, "a=x|yz"}, {put("b", "1"), 0, "a=x|yz b=|1"}, {rename("a", "c"), 0, "b=|1 c=x|yz"}, {remove("b"), 0, "c=x|yz"}, {put("a", ""), 0, "a=| c=x|yz"}}
	for _, no := range refused() {
		for i := range len(good) + 1 {
			l := slices.Concat(opsOf(good[:i]), []crash.Op{no.op}, opsOf(good[i:]), []crash.Op{put("z", "z"), put("A", "x"), sync("zz")})
			d := disk.New(capacity)
			holdMust(t, d, l, no.want)
			holdDisk(t, d, filesOf(good, i), i+1, false)
		}
	}
}

func TestMustCrashes(t *testing.T) {
	good := []step{{put("a", "x"), 0, "a=|x"}, {sync("a"), 0, "a=x|"}, {put("a", "yz"), 0, "a=x|yz"}, {put("b", "1"), 0, "a=x|yz b=|1"}, {rename("a", "c"), 0, "b=|1 c=x|yz"}, {remove("b"), 0, "c=x|yz"}}
	for n := range good {
		for _, keep := range keeps {
			d := disk.New(capacity)
			d.Arm(uint64(n), keep)
			holdMust(t, d, mixed(opsOf(good)), api.ErrCrash)
			holdDisk(t, d, left(filesOf(good, n), keep), n, true)
			holdMust(t, d, opsOf(good), api.ErrCrash)
			holdDisk(t, d, left(filesOf(good, n), keep), n, true)
			d.Up()
			holdMust(t, d, []crash.Op{put("d", "w"), sync("d")}, api.OK)
			if d.Calls() != uint64(n+2) {
				t.Fatal(d.Calls())
			}
		}
	}
	for _, n := range append([]uint64{uint64(len(good)), uint64(len(good)) + 1}, farPlaces...) {
		d := disk.New(capacity)
		d.Arm(n, 0)
		holdMust(t, d, mixed(opsOf(good)), api.OK)
		holdDisk(t, d, "c=x|yz", len(good), false)
	}
}

// Of a crash and a refused call the one comes that is first; at the same place it is the crash.
func TestMustCrashesAroundARefusedCall(t *testing.T) {
	for _, no := range refused() {
		l := []crash.Op{put("a", "x"), sync("a"), no.op, put("a", "y"), sync("a")}
		for n, want := range []api.Errno{api.ErrCrash, api.ErrCrash, api.ErrCrash, no.want, no.want} {
			d := disk.New(capacity)
			d.Arm(uint64(n), 5)
			holdMust(t, d, l, want)
			holdDisk(t, d, []string{"", "a=x|", "a=x|"}[min(n, 2)], min(n, 3), n < 3)
		}
		d := disk.New(capacity)
		d.Arm(4, 0)
		holdMust(t, d, l, no.want)
		holdMust(t, d, []crash.Op{put("a", "u"), put("a", "v")}, api.ErrCrash)
		holdDisk(t, d, "a=x|", 4, true)
	}
}

func TestMustOnADiskThatIsDown(t *testing.T) {
	for _, l := range [][]crash.Op{opsOf(steps()), {put("a", "")}, {sync("a")}, {nothing(9), rename("a", "b")}, {remove("a")}, {put("A", "x"), sync("a")}, {sync("")}} {
		d := disk.New(capacity)
		holdMust(t, d, []crash.Op{put("a", "xyz")}, api.OK)
		d.Crash(2)
		holdMust(t, d, l, api.ErrCrash)
		holdDisk(t, d, "a=xy|", 1, true)
		d = disk.New(capacity)
		d.Crash(0)
		holdMust(t, d, l, api.ErrCrash)
		holdDisk(t, d, "", 0, true)
		holdMust(t, nil, l, api.ErrCrash)
	}
}

func TestMustWithoutCalls(t *testing.T) {
	for _, l := range noWork() {
		d := disk.New(capacity)
		d.Arm(0, 0)
		holdMust(t, d, l, api.OK)
		holdDisk(t, d, "", 0, false)
		d.Crash(0)
		holdMust(t, d, l, api.OK)
		holdDisk(t, d, "", 0, true)
		holdMust(t, nil, l, api.OK)
	}
}

// P10.4, and all promises held against a disk whose calls are done one by one

// direct does what an Op is, apart from the program; false, if it is nothing.
func direct(d *disk.Disk, o crash.Op) (api.Errno, bool) {
	if o.Kind == 1 {
		return d.Append(o.Name, o.Data), true
	}
	if o.Kind == 2 {
		return d.Sync(o.Name), true
	}
	if o.Kind == 3 {
		return d.Rename(o.Name, o.To), true
	}
	if o.Kind == 4 {
		return d.Remove(o.Name), true
	}
	return api.OK, false
}

// beginning is the answers of the first n calls, on a new disk, and that disk; fewer, if there are no more.
func beginning(capacity int, l []crash.Op, n int) ([]api.Errno, *disk.Disk) {
	d := disk.New(capacity)
	a := []api.Errno{}
	for _, o := range l {
		if len(a) == n {
			break
		}
		if e, is := direct(d, o); is {
			a = append(a, e)
		}
	}
	return a, d
}

func someWork(next func() uint64) []crash.Op {
	names := []string{"a", "b", "c", "a", "b", "A", "d"}
	l := []crash.Op{}
	for range next() % 20 {
		l = append(l, crash.Op{Kind: int(next()%7) - 1, Name: names[next()%7], To: names[next()%7], Data: []byte("0123456789")[:next()%11]})
	}
	return l
}

func TestSomeWork(t *testing.T) {
	next := noise()
	for range 2000 {
		l, c := someWork(next), int(next()%60)-5
		want, d := beginning(c, l, math.MaxInt)
		holdCalls(t, l, len(want))
		end := disk.New(c)
		holdRun(t, end, l, want, false)
		holdDisk(t, end, told(d.Files()), len(want), false)
		for place := range len(want) + 2 {
			keep := int(next()%15) - 2
			first, d := beginning(c, l, place)
			d.Crash(keep)
			files := d.Files()
			if got := crash.At(c, l, uint64(place), keep); !reflect.DeepEqual(got, files) {
				t.Fatalf("%+v at %d, keeping %d: %v, not %v", l, place, keep, got, files)
			}
			armed := disk.New(c)
			armed.Arm(uint64(place), keep)
			holdRun(t, armed, l, first, place < len(want))
			if got := armed.Files(); place < len(want) && !reflect.DeepEqual(got, files) {
				t.Fatalf("%+v at %d, keeping %d: %v, not %v", l, place, keep, got, files)
			}
		}
		n := slices.IndexFunc(want, func(e api.Errno) bool { return e != api.OK })
		e := api.OK
		if n >= 0 {
			e = want[n]
		} else {
			n = len(want) - 1
		}
		_, d = beginning(c, l, n+1)
		must := disk.New(c)
		holdMust(t, must, l, e)
		holdDisk(t, must, told(d.Files()), n+1, false)
	}
}

// Of each file a crash leaves a beginning, which has all that was sure, and is sure.
func TestACrashLeavesBeginnings(t *testing.T) {
	next := noise()
	for range 500 {
		l := someWork(next)
		for place := range crash.Calls(l) + 1 {
			keep := int(next()%15) - 2
			_, d := beginning(40, l, place)
			was, is := d.Files(), crash.At(40, l, uint64(place), keep)
			if len(was) != len(is) {
				t.Fatalf("%v became %v", was, is)
			}
			for i, f := range is {
				if f.Name != was[i].Name || f.Sure != len(f.Data) || !bytes.HasPrefix(was[i].Data, f.Data) || f.Sure != min(len(was[i].Data), was[i].Sure+max(keep, 0)) {
					t.Fatalf("%v became %v, keeping %d", was[i], f, keep)
				}
			}
		}
	}
}

// What is behind the place has no part in what is left.
func TestWhatIsBehindAPlaceDoesNotMatter(t *testing.T) {
	next := noise()
	for range 500 {
		l, other := someWork(next), someWork(next)
		n := crash.Calls(l)
		want := told(crash.At(40, l, math.MaxUint64, 3))
		holdAt(t, 40, l, uint64(n), 3, want)
		holdAt(t, 40, slices.Concat(l, other), uint64(n), 3, want)
	}
}

// What is handed in, what is answered

func copied(l []crash.Op) []crash.Op {
	c := []crash.Op{}
	for _, o := range l {
		o.Data = bytes.Clone(o.Data)
		c = append(c, o)
	}
	return c
}

// Neither the work nor what lies in the room behind it is changed or kept.
func TestWorkIsNeitherChangedNorKept(t *testing.T) {
	room := []byte("xyz, and more")
	all := append(opsOf(steps()), sync("b"), put("b", "!"))
	l := all[:len(all)-2]
	l[0].Data = room[:3]
	was := copied(all)
	d := disk.New(capacity)
	crash.Run(d, l)
	crash.Calls(l)
	crash.Must(disk.New(capacity), l)
	f := crash.At(capacity, l, 4, 5)
	if !reflect.DeepEqual(copied(all), was) || string(room) != "xyz, and more" {
		t.Error("the work was changed")
	}
	for _, o := range all {
		for i := range o.Data {
			o.Data[i] = '?'
		}
	}
	clear(all)
	if told(d.Files()) != "a=hi|!" || told(f) != "a=xyzuv| b=1234|" {
		t.Error("the work was kept:", told(d.Files()), told(f))
	}
}

func TestWhatIsAnsweredIsNew(t *testing.T) {
	l := []crash.Op{put("a", "xyz"), put("b", "12"), sync("c")}
	d := disk.New(capacity)
	one, _ := crash.Run(d, l)
	other, _ := crash.Run(d, l)
	one[0], one[2] = api.ErrSum, api.ErrSum
	_ = append(one[:1], api.ErrSum)
	if !slices.Equal(other, []api.Errno{0, 0, api.ErrNone}) {
		t.Error(other)
	}
	f, g := crash.At(capacity, l, 2, 9), crash.At(capacity, l, 2, 9)
	for i := range f {
		for j := range f[i].Data {
			f[i].Data[j] = '?'
		}
		_ = append(f[i].Data, '?')
	}
	clear(f[:1])
	if told(g) != "a=xyz| b=12|" || string(l[0].Data) != "xyz" || string(l[1].Data) != "12" {
		t.Error(told(g), l)
	}
}

// Work on one disk has no part in another one.
func TestTwoDisks(t *testing.T) {
	all := steps()
	one, other := disk.New(capacity), disk.New(capacity)
	one.Arm(3, 0)
	holdRun(t, other, opsOf(all[:4]), wantsOf(all[:4]), false)
	holdRun(t, one, opsOf(all), wantsOf(all[:3]), true)
	holdDisk(t, other, all[3].files, 4, false)
	holdRun(t, other, opsOf(all[4:]), wantsOf(all[4:]), false)
	holdDisk(t, one, "a=xyz|", 3, true)
}
