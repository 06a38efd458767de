package sha_test

import (
	"bytes"
	"crypto/sha256"
	"encoding"
	"encoding/binary"
	"encoding/hex"
	"math"
	"strings"
	"testing"

	"taximeter/sha"
)

var first = [8]uint32{0x6a09e667, 0xbb67ae85, 0x3c6ef372, 0xa54ff53a, 0x510e527f, 0x9b05688c, 0x1f83d9ab, 0x5be0cd19}

// told are digests that are known from elsewhere (FIPS 180-4's examples, and those that NIST gives beside them).
var told = []struct {
	name   string
	b      []byte
	digest string
}{
	{"nil", nil, "e3b0c44298fc1c149afbf4c8996fb92427ae41e4649b934ca495991b7852b855"},
	{"no bytes", []byte{}, "e3b0c44298fc1c149afbf4c8996fb92427ae41e4649b934ca495991b7852b855"},
	{"abc", []byte("abc"), "ba7816bf8f01cfea414140de5dae2223b00361a396177a9cb410ff61f20015ad"},
	{"two blocks", []byte("abcdbcdecdefdefgefghfghighijhijkijkljklmklmnlmnomnopnopq"), "248d6a61d20638b8e5c026930c3e6039a33ce45964ff2167f6ecedd419db06c1"},
	{"three blocks", []byte("abcdefghbcdefghicdefghijdefghijkefghijklfghijklmghijklmnhijklmnoijklmnopjklmnopqklmnopqrlmnopqrsmnopqrstnopqrstu"), "cf5b16a778af8380036ce59e7b0492370b249b11e8f07a51afac45037afee9d1"},
	{"bd", []byte{0xbd}, "68325720aabd7c82f30f554b313d0570c95accbb7dc4b5aae11204c08ffe732b"},
	{"c98c8e55", []byte{0xc9, 0x8c, 0x8e, 0x55}, "7abc22c0ae5af26ce93dbb94433a0e0b2e119d014f8e7f65bd56c61ccccd9504"},
	{"55 zeros", make([]byte, 55), "02779466cdec163811d078815c633f21901413081449002f24aa3e80f0b88ef7"},
	{"56 zeros", make([]byte, 56), "d4817aa5497628e7c77e6b606107042bbba3130888c5f47a375e6179be789fbb"},
	{"57 zeros", make([]byte, 57), "65a16cb7861335d5ace3c60718b5052e44660726da4cd13bb745381b235a1785"},
	{"64 zeros", make([]byte, 64), "f5a5fd42d16a20302798ef6ed309979b43003d2320d9f0e8ea9831a92759fb4b"},
	{"1000 zeros", make([]byte, 1000), "541b3e9daa09b20bf85fa273e5cbd3e80185aa4ec298e765db87742b70138a53"},
	{"1000 of 41", bytes.Repeat([]byte{0x41}, 1000), "c2e686823489ced2017f6059b8b239318b6364f6dcd835d0a519105a1eadd6e4"},
	{"1005 of 55", bytes.Repeat([]byte{0x55}, 1005), "f4d62ddec0f3dd90ea1380fa16a5ff8dc4c54b21740650f24afc4120903552b0"},
	{"a million of a", bytes.Repeat([]byte("a"), 1000000), "cdc76e5c9914fb9281a1c7e284d73e67f1809a48a497200e046d39ccc7112cd0"},
}

// noise makes bytes of many values, ever the same ones.
func noise() func() byte {
	x := uint32(2463534242)
	return func() byte {
		x ^= x << 13
		x ^= x >> 17
		x ^= x << 5
		return byte(x >> 11)
	}
}

// samples are bytes of every length from none to 260, and a long one.
func samples() [][]byte {
	next := noise()
	var l [][]byte
	for n := range 262 {
		if n == 261 {
			n = 70001
		}
		b := make([]byte, n)
		for i := range b {
			b[i] = next()
		}
		l = append(l, b)
	}
	return l
}

// filled is a block of one byte, again and again.
func filled(x byte) [64]byte {
	return [64]byte(bytes.Repeat([]byte{x}, 64))
}

// one is a block that is padded by hand: b, the bit, zeros, and the length.
func one(b string) [64]byte {
	var block [64]byte
	copy(block[:], b)
	block[len(b)] = 0x80
	block[62], block[63] = byte(len(b)*8>>8), byte(len(b)*8)
	return block
}

// bytesOf is a state as the digest tells it.
func bytesOf(state [8]uint32) []byte {
	var b []byte
	for _, n := range state {
		b = binary.BigEndian.AppendUint32(b, n)
	}
	return b
}

// another is the library's state behind a block, made apart from the program's: what the library keeps of a digest that is half done has the state behind a mark of four bytes.
func another(t *testing.T, state [8]uint32, block [64]byte) [8]uint32 {
	t.Helper()
	h := sha256.New()
	kept, err := h.(encoding.BinaryMarshaler).MarshalBinary()
	if err != nil || !bytes.Equal(kept[4:36], bytesOf(first)) {
		t.Fatal("the library keeps a digest otherwise:", kept, err)
	}
	copy(kept[4:], bytesOf(state))
	if err := h.(encoding.BinaryUnmarshaler).UnmarshalBinary(kept); err != nil {
		t.Fatal(err)
	}
	h.Write(block[:])
	kept, err = h.(encoding.BinaryMarshaler).MarshalBinary()
	if err != nil {
		t.Fatal(err)
	}
	var behind [8]uint32
	for i := range behind {
		behind[i] = binary.BigEndian.Uint32(kept[4+4*i:])
	}
	return behind
}

// roomy is bytes of a longer array, whose room behind the end must stay as it is.
func roomy(b []byte) (list, room []byte) {
	all := append(append([]byte{}, b...), bytes.Repeat([]byte{0xee}, 200)...)
	return all[:len(b)], all[len(b):]
}

func untouched(room []byte) bool {
	return bytes.Equal(room, bytes.Repeat([]byte{0xee}, 200))
}

// P3.1

func TestSum(t *testing.T) {
	for _, x := range told {
		if d := sha.Sum(x.b); hex.EncodeToString(d[:]) != x.digest {
			t.Errorf("%s: %x, not %s", x.name, d, x.digest)
		}
	}
}

func TestSumOfEachLength(t *testing.T) {
	for _, b := range samples() {
		if d := sha.Sum(b); d != sha256.Sum256(b) {
			t.Errorf("%d bytes: %x", len(b), d)
		}
	}
}

func TestSumOfEachByte(t *testing.T) {
	for x := range 256 {
		b := []byte{byte(x)}
		if d := sha.Sum(b); d != sha256.Sum256(b) {
			t.Errorf("%x: %x", b, d)
		}
		block := filled(byte(x))
		if d := sha.Sum(block[:]); d != sha256.Sum256(block[:]) {
			t.Errorf("a block of %x: %x", b, d)
		}
	}
}

func TestSumChangesNothing(t *testing.T) {
	for _, n := range []int{0, 3, 55, 56, 63, 64, 65, 130} {
		b, room := roomy(bytes.Repeat([]byte{7}, n))
		d := sha.Sum(b)
		if !bytes.Equal(b, bytes.Repeat([]byte{7}, n)) || !untouched(room) {
			t.Fatal(n, b, room)
		}
		room[0] = 1
		if sha.Sum(b) != d {
			t.Error(n, "the room behind the end is summed, or a digest hangs on one before")
		}
	}
}

// padded is what must follow n bytes: so many zeros behind 80, and the bits in hex.
func padded(zeros int, length string) []byte {
	b, err := hex.DecodeString("80" + strings.Repeat("00", zeros) + length)
	if err != nil {
		panic(err)
	}
	return b
}

func TestPad(t *testing.T) {
	for _, x := range []struct {
		n    int
		want []byte
	}{
		{0, padded(55, "0000000000000000")},
		{1, padded(54, "0000000000000008")},
		{3, padded(52, "0000000000000018")},
		{54, padded(1, "00000000000001b0")},
		{55, padded(0, "00000000000001b8")},
		{56, padded(63, "00000000000001c0")},
		{57, padded(62, "00000000000001c8")},
		{63, padded(56, "00000000000001f8")},
		{64, padded(55, "0000000000000200")},
		{65, padded(54, "0000000000000208")},
		{119, padded(0, "00000000000003b8")},
		{120, padded(63, "00000000000003c0")},
		{128, padded(55, "0000000000000400")},
		{8191, padded(56, "000000000000fff8")},
		{1 << 21, padded(55, "0000000001000000")},
		{1 << 29, padded(55, "0000000100000000")},
		{math.MaxInt32, padded(56, "00000003fffffff8")},
		{1<<37 + 1, padded(54, "0000010000000008")},
		{1 << 45, padded(55, "0001000000000000")},
		{1 << 53, padded(55, "0100000000000000")},
		{1<<61 - 1, padded(56, "fffffffffffffff8")},
	} {
		if got := sha.Pad(x.n); !bytes.Equal(got, x.want) {
			t.Errorf("%d: %x, not %x", x.n, got, x.want)
		}
	}
}

func TestPadOfNumbersBelow0(t *testing.T) {
	for _, n := range []int{-1, -8, -9, -55, -56, -64, math.MinInt32, math.MinInt + 1, math.MinInt} {
		if got := sha.Pad(n); !bytes.Equal(got, padded(55, "0000000000000000")) {
			t.Errorf("%d: %x", n, got)
		}
	}
}

// More bits than eight bytes can tell go round.
func TestPadOfTheGreatestNumbers(t *testing.T) {
	for _, x := range []struct {
		n    int
		want []byte
	}{
		{math.MaxInt, padded(56, "fffffffffffffff8")},
		{math.MaxInt - 7, padded(63, "ffffffffffffffc0")},
		{math.MaxInt - 8, padded(0, "ffffffffffffffb8")},
		{1 << 61, padded(55, "0000000000000000")},
		{1<<62 + 1, padded(54, "0000000000000008")},
	} {
		if got := sha.Pad(x.n); !bytes.Equal(got, x.want) {
			t.Errorf("%d: %x, not %x", x.n, got, x.want)
		}
	}
}

func TestPadMakesWholeBlocks(t *testing.T) {
	for n := range 300 {
		got := sha.Pad(n)
		if (n+len(got))%64 != 0 || len(got) < 9 || len(got) > 72 {
			t.Errorf("%d bytes are followed by %d", n, len(got))
		}
	}
}

func TestPadAnswersNewMemory(t *testing.T) {
	one, other := sha.Pad(3), sha.Pad(3)
	clear(one)
	_ = append(one, 1, 2, 3)
	if !bytes.Equal(other, padded(52, "0000000000000018")) || !bytes.Equal(sha.Pad(3), other) {
		t.Error("two answers share memory")
	}
}

func TestStart(t *testing.T) {
	got := sha.Start()
	if got != first {
		t.Errorf("%08x", got)
	}
	got[0], got[7] = 0, 0
	if sha.Start() != first {
		t.Error("what is answered is kept")
	}
}

func TestBlock(t *testing.T) {
	for _, x := range []struct {
		state [8]uint32
		block [64]byte
		want  [8]uint32
	}{
		{first, one("abc"), [8]uint32{0xba7816bf, 0x8f01cfea, 0x414140de, 0x5dae2223, 0xb00361a3, 0x96177a9c, 0xb410ff61, 0xf20015ad}},
		{first, one(""), [8]uint32{0xe3b0c442, 0x98fc1c14, 0x9afbf4c8, 0x996fb924, 0x27ae41e4, 0x649b934c, 0xa495991b, 0x7852b855}},
		{first, filled(0), [8]uint32{0xda5698be, 0x17b9b469, 0x62335799, 0x779fbeca, 0x8ce5d491, 0xc0d26243, 0xbafef9ea, 0x1837a9d8}},
	} {
		if got := sha.Block(x.state, x.block); got != x.want {
			t.Errorf("%08x and %x: %08x, not %08x", x.state, x.block, got, x.want)
		}
	}
}

// Any eight numbers may come in as a state, those at which sums go round too.
func TestBlockOfAnyState(t *testing.T) {
	next := noise()
	states := [][8]uint32{{}, first, {1}, {7: 1}, {math.MaxUint32}, {4: 1 << 31}}
	var greatest, state [8]uint32
	for i := range greatest {
		greatest[i] = math.MaxUint32
	}
	states = append(states, greatest)
	blocks := [][64]byte{{}, filled(0xff), filled(0x80), one("abc"), {0: 1}, {63: 1}, {60: 0x80}}
	for range 40 {
		var block [64]byte
		for i := range block {
			block[i] = next()
		}
		for i := range state {
			state[i] = uint32(next())<<24 | uint32(next())<<16 | uint32(next())<<8 | uint32(next())
		}
		states, blocks = append(states, state), append(blocks, block)
	}
	for _, state := range states {
		for _, block := range blocks {
			if got, want := sha.Block(state, block), another(t, state, block); got != want {
				t.Fatalf("%08x and %x: %08x, not %08x", state, block, got, want)
			}
		}
	}
}

func TestBlockChangesNothing(t *testing.T) {
	state, block := first, one("abc")
	got := sha.Block(state, block)
	if state != first || block != one("abc") {
		t.Error("what was handed in is changed")
	}
	if sha.Block(state, block) != got || sha.Start() != first {
		t.Error("a state hangs on one before")
	}
}

// P3.2

// blockByBlock is the digest of whole blocks, as Start and Block tell it.
func blockByBlock(all []byte) [32]byte {
	state := sha.Start()
	for ; len(all) > 0; all = all[64:] {
		state = sha.Block(state, [64]byte(all[:64]))
	}
	return [32]byte(bytesOf(state))
}

func TestADigestGoesOnBlockByBlock(t *testing.T) {
	for _, b := range samples() {
		all := append(bytes.Clone(b), sha.Pad(len(b))...)
		if len(all)%64 != 0 {
			t.Fatalf("%d bytes and their padding are no whole blocks: %d", len(b), len(all))
		}
		if got := blockByBlock(all); got != sha.Sum(b) {
			t.Errorf("%d bytes: %x, not %x", len(b), got, sha.Sum(b))
		}
	}
}

// A state that was kept is gone on from as often as wanted.
func TestADigestGoesOnFromAStateThatWasKept(t *testing.T) {
	begin := filled('b')
	kept := sha.Block(sha.Start(), begin)
	for _, rest := range samples()[:140] {
		b := append(begin[:len(begin):len(begin)], rest...)
		state := kept
		for all := append(bytes.Clone(rest), sha.Pad(len(b))...); len(all) > 0; all = all[64:] {
			state = sha.Block(state, [64]byte(all[:64]))
		}
		if got := [32]byte(bytesOf(state)); got != sha.Sum(b) {
			t.Fatalf("%d bytes behind a block: %x, not %x", len(rest), got, sha.Sum(b))
		}
	}
}
