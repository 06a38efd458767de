package hmac_test

import (
	"bytes"
	chmac "crypto/hmac"
	"crypto/sha256"
	"encoding/hex"
	"slices"
	"strings"
	"testing"
	"time"

	"taximeter/hmac"
	"taximeter/sha"
)

const fox = "The quick brown fox jumps over the lazy dog"

// told are tags that are known from elsewhere (most are RFC 4231's; the chapter's example is the first).
var told = []struct {
	name   string
	key, b []byte
	tag    string
}{
	{"the chapter's", []byte("key"), []byte(fox), "f7bc83f430538424b13298e6aa6fb143ef4d59a14946175997479dbc2d1a3cd8"},
	{"no key, no bytes", nil, nil, "b613679a0814d9ec772f95d778c35fc5ff1697c493715653c6c712144292c5ad"},
	{"an empty key, empty bytes", []byte{}, []byte{}, "b613679a0814d9ec772f95d778c35fc5ff1697c493715653c6c712144292c5ad"},
	{"case 1", bytes.Repeat([]byte{0x0b}, 20), []byte("Hi There"), "b0344c61d8db38535ca8afceaf0bf12b881dc200c9833da726e9376c2e32cff7"},
	{"case 2", []byte("Jefe"), []byte("what do ya want for nothing?"), "5bdcc146bf60754e6a042426089575c75a003f089d2739839dec58b964ec3843"},
	{"case 3", bytes.Repeat([]byte{0xaa}, 20), bytes.Repeat([]byte{0xdd}, 50), "773ea91e36800e46854db8ebd09181a72959098b3ef8c122d9635514ced565fe"},
	{"case 4", upFrom(1, 25), bytes.Repeat([]byte{0xcd}, 50), "82558a389a443c0ea4cc819899f2083a85f0faa3e578f8077a2e3ff46729665b"},
	{"case 6", bytes.Repeat([]byte{0xaa}, 131), []byte("Test Using Larger Than Block-Size Key - Hash Key First"), "60e431591ee0b67f0d8a26aacbf5b77f8e0bc6213728c5140546040f0ee37f54"},
	{"case 7", bytes.Repeat([]byte{0xaa}, 131), []byte("This is a test using a larger than block-size key and a larger than block-size data. The key needs to be hashed before being used by the HMAC algorithm."), "9b09ffa71b942fcb27635fbcd5b0e944bfdc63644f0713938a7f51535c3a35e2"},
}

func upFrom(first byte, n int) []byte {
	b := make([]byte, n)
	for i := range b {
		b[i] = first + byte(i)
	}
	return b
}

// noise is so many bytes of many values, ever the same ones of a seed; none of them is 0, so that zeros behind them are seen.
func noise(seed uint32, n int) []byte {
	b := make([]byte, n)
	x := seed*2654435761 + 2463534242
	for i := range b {
		x ^= x << 13
		x ^= x >> 17
		x ^= x << 5
		b[i] = byte(x>>11) | 1
	}
	return b
}

// another is the library's tag, made apart from the program's.
func another(key, b []byte) [32]byte {
	h := chmac.New(sha256.New, key)
	h.Write(b)
	return [32]byte(h.Sum(nil))
}

// roomy is bytes of a longer array, whose room behind the end must stay as it is.
func roomy(b []byte) (list, room []byte) {
	all := append(append([]byte{}, b...), bytes.Repeat([]byte{0xee}, 200)...)
	return all[:len(b)], all[len(b):]
}

func untouched(room []byte) bool {
	return bytes.Equal(room, bytes.Repeat([]byte{0xee}, 200))
}

// zeros is b, and zeros behind it, up to n bytes.
func zeros(b []byte, n int) []byte {
	return append(bytes.Clone(b), make([]byte, n-len(b))...)
}

// P4.1: Tag

func TestTag(t *testing.T) {
	for _, x := range told {
		if d := hmac.Tag(x.key, x.b); hex.EncodeToString(d[:]) != x.tag {
			t.Errorf("%s: %x, not %s", x.name, d, x.tag)
		}
	}
}

// Case 5 of RFC 4231 tells the tag's first half alone.
func TestTagOfWhichHalfIsTold(t *testing.T) {
	d := hmac.Tag(bytes.Repeat([]byte{0x0c}, 20), []byte("Test With Truncation"))
	if hex.EncodeToString(d[:16]) != "a3b6167473100ee06e0c796c2955552b" {
		t.Errorf("%x", d)
	}
}

// keySizes has every length up to beyond two blocks, and longer ones.
func keySizes() []int {
	sizes := []int{191, 192, 193, 1000, 5000}
	for n := range 140 {
		sizes = append(sizes, n)
	}
	return sizes
}

func TestTagOfKeysOfEachLength(t *testing.T) {
	for _, n := range keySizes() {
		key := noise(1, n)
		for _, b := range [][]byte{nil, []byte("a"), noise(2, 64), noise(3, 200)} {
			if d := hmac.Tag(key, b); d != another(key, b) {
				t.Errorf("a key of %d bytes, %d bytes: %x", n, len(b), d)
			}
		}
	}
}

func TestTagOfBytesOfEachLength(t *testing.T) {
	for _, n := range keySizes() {
		b := noise(4, n)
		for _, key := range [][]byte{nil, []byte("k"), noise(5, 32), noise(5, 64), noise(5, 65)} {
			if d := hmac.Tag(key, b); d != another(key, b) {
				t.Errorf("a key of %d bytes, %d bytes: %x", len(key), n, d)
			}
		}
	}
}

func TestTagOfEachByte(t *testing.T) {
	for x := range 256 {
		for _, n := range []int{1, 32, 63, 64, 65} {
			b := bytes.Repeat([]byte{byte(x)}, n)
			if hmac.Tag(b, []byte(fox)) != another(b, []byte(fox)) || hmac.Tag([]byte("key"), b) != another([]byte("key"), b) {
				t.Errorf("%d bytes of %x", n, x)
			}
		}
	}
}

func TestTagOfManyBytes(t *testing.T) {
	key, b := noise(6, 100000), noise(7, 1<<20)
	if hmac.Tag(key, b) != another(key, b) {
		t.Error("another tag")
	}
}

// Every byte of the key, of the bytes, and the place where one ends and the other begins, is in the tag.
func TestTagHangsOnAllBytes(t *testing.T) {
	seen := map[[32]byte]string{}
	see := func(key, b []byte, name string) {
		d := hmac.Tag(key, b)
		if seen[d] != "" {
			t.Errorf("%s has the tag of %s", name, seen[d])
		}
		seen[d] = name
	}
	for _, n := range []int{1, 63, 64, 65, 130} {
		for i := range n {
			for _, bit := range []byte{1, 0x80} {
				key := noise(8, n)
				key[i] ^= bit
				see(key, []byte(fox), "a key that is changed")
				b := noise(9, n)
				b[i] ^= bit
				see([]byte("key"), b, "bytes that are changed")
			}
		}
	}
	all := noise(10, 60)
	for i := range len(all) + 1 {
		see(all[:i], all[i:], "a key and bytes that are parted elsewhere")
	}
}

func TestTagChangesNothing(t *testing.T) {
	for _, n := range []int{0, 1, 20, 32, 63, 64, 65, 130} {
		for _, m := range []int{0, 1, 55, 64, 130} {
			key, keyRoom := roomy(noise(11, n))
			b, room := roomy(noise(12, m))
			d := hmac.Tag(key, b)
			if !bytes.Equal(key, noise(11, n)) || !bytes.Equal(b, noise(12, m)) || !untouched(keyRoom) || !untouched(room) {
				t.Fatalf("a key of %d bytes, %d bytes: what was handed in is changed", n, m)
			}
			if d != another(key, b) {
				t.Errorf("a key of %d bytes, %d bytes: the room behind an end is read", n, m)
			}
		}
	}
}

// Both may lie in one array, one behind the other, or be the same.
func TestTagOfAKeyAndBytesInOneArray(t *testing.T) {
	for _, n := range []int{0, 3, 63, 64, 65, 100} {
		all := noise(13, 300)
		if hmac.Tag(all[:n], all[n:]) != another(all[:n], all[n:]) || hmac.Tag(all[n:], all[:n]) != another(all[n:], all[:n]) {
			t.Error(n, "a key and bytes beside each other")
		}
		if hmac.Tag(all[:n], all[:n]) != another(all[:n], all[:n]) {
			t.Error(n, "a key and bytes that are the same")
		}
		if !bytes.Equal(all, noise(13, 300)) {
			t.Error(n, "what was handed in is changed")
		}
	}
}

func TestTagKeepsNothing(t *testing.T) {
	key, b := noise(14, 70), noise(15, 70)
	first := hmac.Tag(key, b)
	kept := first
	clear(first[:])
	hmac.Tag([]byte("key"), []byte(fox))
	if hmac.Tag(key, b) != kept {
		t.Error("a tag hangs on one before, or what is answered is kept")
	}
	clear(key)
	if hmac.Tag(noise(14, 70), b) != kept || hmac.Tag(key, b) == kept {
		t.Error("a key is kept")
	}
}

// P4.1: Same

func TestSame(t *testing.T) {
	for n := range 200 {
		a, b := noise(16, n), noise(16, n)
		if !hmac.Same(a, b) || !hmac.Same(a, a) {
			t.Error(n, "the same bytes are apart")
		}
	}
	long := noise(17, 1<<20)
	if !hmac.Same(long, bytes.Clone(long)) {
		t.Error("many bytes are apart from themselves")
	}
}

func TestSameOfNoBytes(t *testing.T) {
	for _, a := range [][]byte{nil, {}, make([]byte, 0, 9), []byte("ab")[:0]} {
		for _, b := range [][]byte{nil, {}, []byte("cd")[:0]} {
			if !hmac.Same(a, b) || !hmac.Same(b, a) {
				t.Error("no bytes are apart from no bytes")
			}
		}
		for _, n := range []int{1, 32, 256, 1 << 16} {
			if hmac.Same(a, make([]byte, n)) || hmac.Same(make([]byte, n), a) {
				t.Error("no bytes are the same as", n)
			}
		}
	}
}

// Each bit of each byte counts, that of the first and of the last too.
func TestSameOfBytesThatDiffer(t *testing.T) {
	for _, n := range []int{1, 2, 7, 8, 9, 31, 32, 33, 64, 65} {
		for i := range n {
			for bit := range 8 {
				a, b := noise(18, n), noise(18, n)
				b[i] ^= 1 << bit
				if hmac.Same(a, b) || hmac.Same(b, a) {
					t.Errorf("%d bytes, of which %d has another bit %d, are the same", n, i, bit)
				}
			}
		}
	}
	long := noise(17, 1<<20)
	for _, i := range []int{0, 1, 1 << 19, len(long) - 1} {
		other := bytes.Clone(long)
		other[i]++
		if hmac.Same(long, other) {
			t.Error("many bytes, of which one is another, are the same", i)
		}
	}
}

// What is apart at one place is not made good by what is apart at another one.
func TestSameOfBytesThatDifferTwice(t *testing.T) {
	base := noise(19, 32)
	for i := range base {
		for j := range i {
			for _, by := range []byte{1, 0x40, 0x80, 0xff} {
				turned, moved, changed := bytes.Clone(base), bytes.Clone(base), bytes.Clone(base)
				turned[i] ^= by
				turned[j] ^= by
				moved[i] += by
				moved[j] -= by
				changed[i], changed[j] = changed[j], changed[i]
				if hmac.Same(base, turned) || hmac.Same(base, moved) || hmac.Same(base, changed) != (base[i] == base[j]) {
					t.Fatalf("bytes %d and %d by %x", i, j, by)
				}
			}
		}
	}
	if hmac.Same(make([]byte, 32), bytes.Repeat([]byte{0xff}, 32)) || hmac.Same(base, slices.Repeat(base[:16], 2)) {
		t.Error("bytes that are all others are the same")
	}
}

func TestSameOfOtherLengths(t *testing.T) {
	for _, n := range []int{0, 1, 8, 31, 32, 63, 64} {
		for _, more := range []int{1, 2, 31, 32, 255, 256, 512, 1 << 16} {
			a := noise(20, n)
			for _, b := range [][]byte{zeros(a, n+more), append(bytes.Clone(a), noise(21, more)...), append(noise(21, more), a...)} {
				if hmac.Same(a, b) || hmac.Same(b, a) {
					t.Errorf("%d bytes are the same as %d", len(a), len(b))
				}
			}
		}
	}
}

// A list that has the other's bytes in the room behind its end is shorter all the same.
func TestSameReadsNoRoom(t *testing.T) {
	all := noise(22, 32)
	if hmac.Same(all[:31], all) || hmac.Same(all, all[:31]) || hmac.Same(all[:0], all) {
		t.Error("the room behind the end is read")
	}
	a, aRoom := roomy(all)
	b, bRoom := roomy(all)
	bRoom[0] = 0
	if !hmac.Same(a, b) {
		t.Error("the room behind the end is read")
	}
	bRoom[0] = 0xee
	if !bytes.Equal(a, all) || !bytes.Equal(b, all) || !untouched(aRoom) || !untouched(bRoom) {
		t.Error("what was handed in is changed")
	}
}

// least is the shortest of some times that it takes.
func least(f func()) time.Duration {
	best := time.Duration(1<<63 - 1)
	for range 8 {
		begin := time.Now()
		f()
		best = min(best, time.Since(begin))
	}
	return best
}

// All bytes are gone through, also where the first one is another: to end there would take some ten thousandth of the time, so that the bound may be far off.
func TestSameGoesThroughAllBytes(t *testing.T) {
	a := noise(23, 1<<22)
	b, other := bytes.Clone(a), bytes.Clone(a)
	other[0] ^= 1
	same := least(func() { hmac.Same(a, b) })
	apart := least(func() { hmac.Same(a, other) })
	if apart < same/50 {
		t.Errorf("%v where the first byte is another, %v where none is", apart, same)
	}
}

// P4.1: Check

func TestCheck(t *testing.T) {
	for _, x := range told {
		tag, err := hex.DecodeString(x.tag)
		if err != nil {
			t.Fatal(err)
		}
		if !hmac.Check(x.key, x.b, tag) {
			t.Errorf("%s: its tag is refused", x.name)
		}
	}
	for n := range 140 {
		key, b := noise(24, n), noise(25, 2*n)
		if tag := hmac.Tag(key, b); !hmac.Check(key, b, tag[:]) {
			t.Errorf("a key of %d bytes: its tag is refused", n)
		}
		if tag := another(key, b); !hmac.Check(key, b, tag[:]) {
			t.Errorf("a key of %d bytes: the library's tag is refused", n)
		}
	}
}

func TestCheckOfOtherTags(t *testing.T) {
	for _, x := range told {
		for _, y := range told {
			tag := hmac.Tag(y.key, y.b)
			if hmac.Check(x.key, x.b, tag[:]) != (x.tag == y.tag) {
				t.Errorf("%s, by the tag of %s", x.name, y.name)
			}
		}
	}
}

func TestCheckOfAnotherKeyOrOtherBytes(t *testing.T) {
	for _, n := range []int{1, 8, 32, 63, 64, 65, 130} {
		key, b := noise(26, n), noise(27, n)
		tag := hmac.Tag(key, b)
		for i := range n {
			other, others := bytes.Clone(key), bytes.Clone(b)
			other[i]++
			others[i]++
			if hmac.Check(other, b, tag[:]) || hmac.Check(key, others, tag[:]) {
				t.Errorf("a key of %d bytes: its tag is another's, of byte %d", n, i)
			}
		}
		for _, other := range [][]byte{nil, key[1:], append(bytes.Clone(key), 1), append([]byte{0}, key...), b} {
			if hmac.Check(other, b, tag[:]) {
				t.Errorf("a key of %d bytes: its tag is that of one of %d", n, len(other))
			}
		}
		for _, others := range [][]byte{nil, b[1:], append(bytes.Clone(b), 0), append([]byte{0}, b...), key} {
			if hmac.Check(key, others, tag[:]) {
				t.Errorf("%d bytes: their tag is that of %d others", n, len(others))
			}
		}
		if hmac.Check(b, key, tag[:]) {
			t.Errorf("%d bytes: key and bytes may be changed for each other", n)
		}
	}
}

func TestCheckOfAChangedTag(t *testing.T) {
	key, b := []byte("key"), []byte(fox)
	for i := range 32 {
		for bit := range 8 {
			tag := hmac.Tag(key, b)
			tag[i] ^= 1 << bit
			if hmac.Check(key, b, tag[:]) {
				t.Errorf("bit %d of byte %d is another", bit, i)
			}
		}
	}
	tag := hmac.Tag(key, b)
	slices.Reverse(tag[:])
	if hmac.Check(key, b, tag[:]) || hmac.Check(key, b, make([]byte, 32)) || hmac.Check(key, b, bytes.Repeat([]byte{0xff}, 32)) {
		t.Error("a tag of other bytes is taken")
	}
}

func TestCheckOfATagOfAnotherLength(t *testing.T) {
	for _, x := range told {
		tag := hmac.Tag(x.key, x.b)
		for n := range 32 {
			if hmac.Check(x.key, x.b, tag[:n]) || hmac.Check(x.key, x.b, tag[32-n:]) {
				t.Errorf("%s: %d bytes of the tag are taken", x.name, n)
			}
		}
		for _, long := range [][]byte{zeros(tag[:], 33), zeros(tag[:], 64), zeros(tag[:], 288), append([]byte{0}, tag[:]...), slices.Repeat(tag[:], 2)} {
			if hmac.Check(x.key, x.b, long) {
				t.Errorf("%s: a tag of %d bytes is taken", x.name, len(long))
			}
		}
		if hmac.Check(x.key, x.b, nil) || hmac.Check(x.key, x.b, []byte{}) {
			t.Errorf("%s: no tag is taken", x.name)
		}
		if hmac.Check(x.key, x.b, []byte(x.tag)) || hmac.Check(x.key, x.b, []byte(strings.ToUpper(x.tag))) {
			t.Errorf("%s: the tag's digits are taken", x.name)
		}
	}
}

func TestCheckOfNothing(t *testing.T) {
	tag := hmac.Tag(nil, nil)
	if !hmac.Check(nil, nil, tag[:]) || !hmac.Check([]byte{}, []byte{}, tag[:]) || hmac.Check(nil, nil, nil) || hmac.Check(nil, nil, make([]byte, 32)) {
		t.Error("no key, no bytes")
	}
	sum := sha.Sum(nil)
	if hmac.Check(nil, nil, sum[:]) {
		t.Error("a digest is taken for a tag")
	}
}

func TestCheckChangesNothing(t *testing.T) {
	for _, n := range []int{0, 32, 63, 64, 65} {
		right := another(noise(28, n), noise(29, n))
		key, keyRoom := roomy(noise(28, n))
		b, room := roomy(noise(29, n))
		tag, tagRoom := roomy(right[:])
		if !hmac.Check(key, b, tag) || hmac.Check(key, b, tag[:31]) {
			t.Error(n, "the room behind an end is read")
		}
		if !bytes.Equal(key, noise(28, n)) || !bytes.Equal(b, noise(29, n)) || !bytes.Equal(tag, right[:]) {
			t.Error(n, "what was handed in is changed")
		}
		if !untouched(keyRoom) || !untouched(room) || !untouched(tagRoom) {
			t.Error(n, "the room behind an end is changed")
		}
	}
}

// P4.2

func TestAKeyHasTheTagsOfItselfWithZerosBehind(t *testing.T) {
	for n := range 65 {
		key := noise(30, n)
		for _, b := range [][]byte{nil, []byte(fox), noise(31, 100)} {
			want := hmac.Tag(key, b)
			for all := n; all <= 64; all++ {
				if hmac.Tag(zeros(key, all), b) != want || !hmac.Check(zeros(key, all), b, want[:]) {
					t.Errorf("a key of %d bytes, with zeros behind, up to %d", n, all)
				}
			}
			for all := 65; all < 130; all++ {
				if hmac.Tag(zeros(key, all), b) == want {
					t.Errorf("a key of %d bytes, with zeros behind, up to %d, has the same tag", n, all)
				}
			}
		}
	}
}

// Zeros ahead, or other bytes than zeros behind, make another key.
func TestOtherBytesBesideAKeyMakeAnotherOne(t *testing.T) {
	for n := range 64 {
		key := noise(32, n)
		want := hmac.Tag(key, []byte(fox))
		for _, x := range []byte{1, 0x36, 0x5c, 0x6a, 0x80, 0xff} {
			if hmac.Tag(append(bytes.Clone(key), x), []byte(fox)) == want {
				t.Errorf("a key of %d bytes, with %x behind, has the same tag", n, x)
			}
		}
		if n > 0 && hmac.Tag(append([]byte{0}, key...), []byte(fox)) == want {
			t.Errorf("a key of %d bytes, with a zero ahead, has the same tag", n)
		}
	}
}

func TestALongerKeyHasTheTagsOfItsDigest(t *testing.T) {
	for _, n := range []int{65, 66, 67, 95, 96, 97, 127, 128, 129, 131, 192, 1000, 100000} {
		for _, key := range [][]byte{noise(33, n), make([]byte, n)} {
			digest := sha.Sum(key)
			for _, b := range [][]byte{nil, []byte(fox), noise(34, 100), key} {
				want := hmac.Tag(digest[:], b)
				if hmac.Tag(key, b) != want || !hmac.Check(key, b, want[:]) {
					t.Errorf("a key of %d bytes, %d bytes", n, len(b))
				}
				if hmac.Tag(zeros(digest[:], 64), b) != want {
					t.Errorf("a key of %d bytes: its digest with zeros behind", n)
				}
			}
		}
	}
}

// Up to 64 bytes a key stands for itself: its digest is another key.
func TestAShorterKeyHasOtherTagsThanItsDigest(t *testing.T) {
	for n := range 65 {
		key := noise(35, n)
		digest := sha.Sum(key)
		if hmac.Tag(key, []byte(fox)) == hmac.Tag(digest[:], []byte(fox)) {
			t.Errorf("a key of %d bytes has its digest's tag", n)
		}
	}
}
