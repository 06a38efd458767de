package name_test

import (
	"bytes"
	"encoding/hex"
	"math"
	"math/big"
	"regexp"
	"slices"
	"strings"
	"testing"

	"taximeter/api"
	"taximeter/name"
)

const most = uint64(math.MaxUint64)

// The bytes that names are of, written out apart from the program.
const (
	letters  = "abcdefghijklmnopqrstuvwxyz"
	ofTenant = letters + "0123456789-"
	ofTarget = ofTenant + ".:"
)

// Names, digits and lines, told by patterns. One of a line goes by bytes, as each byte that is no UTF-8 is a sign that is above 32, too.
var (
	tenants = regexp.MustCompile(`\A[a-z][a-z0-9-]{0,15}\z`)
	targets = regexp.MustCompile(`\A[a-z0-9-][a-z0-9.:-]{0,23}\z`)
	numbers = regexp.MustCompile(`\A(0|[1-9][0-9]*)\z`)
	hexes   = regexp.MustCompile(`\A(-|([0-9a-f]{2})+)\z`)
	lines   = regexp.MustCompile(`\A([^\x00-\x20]+( [^\x00-\x20]+)*)?\z`)
)

// strange are texts that are no name, no digits of a number and none of bytes.
var strange = []string{
	"", " ", "  ", "\x00", "\t", "\n", "a\n", "a\x00", "\na", " a", "a ", "a b", "_", "a_b", "a/b", "a+b", "a@b", "a`b", "a{b", "a;b", "a,b", "a*b",
	"A", "Ab", "aB", "abC", "Z", "0A", "00FF", "é", "aé", "éa", "ä0", "а", "a\u0430b", "ａ", "１", "٣", "½", "²", "a\u00a0b", "a\u0085", "a\ufffdb", "\ufeffa",
	"\x80", "\xff", "a\x80", "a\xff", "\xffa", "a\xc3", "\xc3a", "a\xe2\x82", "\xed\xa0\x80", "\xf4\x90\x80\x80", "\xc0\xb0", "\xc0\xad", "a\x7f", "\x7f",
}

// noise makes numbers of all bits, ever the same ones.
func noise() func() uint64 {
	x := uint64(88172645463325252)
	return func() uint64 {
		x ^= x << 13
		x ^= x >> 7
		x ^= x << 17
		return x * 2685821657736338717
	}
}

// eachText tells every text of signs, up to a length.
func eachText(signs string, length int, tell func(string)) {
	tell("")
	if length == 0 {
		return
	}
	for i := range len(signs) {
		eachText(signs, length-1, func(rest string) { tell(signs[i:i+1] + rest) })
	}
}

// someTexts are texts of signs, of many lengths, ever the same ones.
func someTexts(signs string, longest, count int) []string {
	next := noise()
	l := make([]string, 0, count)
	for range count {
		b := make([]byte, next()%uint64(longest+1))
		for i := range b {
			b[i] = signs[next()%uint64(len(signs))]
		}
		l = append(l, string(b))
	}
	return l
}

// allBytes is each byte once.
func allBytes() string {
	b := make([]byte, 256)
	for i := range b {
		b[i] = byte(i)
	}
	return string(b)
}

// P7.1: names

func holdTenant(t *testing.T, s string, want bool) {
	t.Helper()
	if name.Tenant(s) != want {
		t.Errorf("%q is a tenant's name: %t", s, !want)
	}
}

func holdTarget(t *testing.T, s string, want bool) {
	t.Helper()
	if name.Target(s) != want {
		t.Errorf("%q is a target's name: %t", s, !want)
	}
}

func TestTenants(t *testing.T) {
	for _, s := range []string{"a-1", "a", "z", "acme", "acme-2", "a1", "a-", "a--", "a0-9z", "x9", "tenant-of-16-let", letters[:16], letters[10:], "a---------------", "z999999999999999"} {
		holdTenant(t, s, true)
	}
	for _, s := range []string{"1a", "1", "0", "9z", "-", "-a", "--", ".", ".a", ":", ":a", "a.b", "a:b", "a.", "a:", "acme.example", "a:80", "Acme", "acmE", "ac me", letters[:17], letters} {
		holdTenant(t, s, false)
	}
}

func TestTargets(t *testing.T) {
	for _, s := range []string{"a-1", "1a", "a", "z", "0", "9", "-", "-a", "-.", "-:", "--", "a.", "a:", "a..b", "a::b", "1.2.3.4:80", "9.example:80", "db-1.example.com:5432", "a.:.:", letters[:24], letters[2:]} {
		holdTarget(t, s, true)
	}
	for _, s := range []string{".", ":", ".a", ":80", "..", "::", ".-", ":-", "Example:80", "example.Com", "a b", "a/b", "[::1]:80", "a_b", "a:80\n", letters[:25], letters} {
		holdTarget(t, s, false)
	}
}

func TestLengthsOfNames(t *testing.T) {
	if api.MaxName != 16 || api.MaxTarget != 24 {
		t.Fatal(api.MaxName, api.MaxTarget)
	}
	for _, size := range []int{0, 1, 2, 15, 16, 17, 23, 24, 25, 32, 255, 256, 257, 272, 280, 1 << 16, 1<<16 + 1, 1 << 20} {
		for _, sign := range []string{"a", "z"} {
			s := strings.Repeat(sign, size)
			holdTenant(t, s, size >= 1 && size <= 16)
			holdTarget(t, s, size >= 1 && size <= 24)
		}
		holdTarget(t, strings.Repeat("-", size), size >= 1 && size <= 24)
		holdTarget(t, strings.Repeat("7", size), size >= 1 && size <= 24)
	}
	// Signs of more than one byte: few signs are bytes enough, and are in no name.
	for _, s := range []string{"é", "aé", strings.Repeat("é", 8), "a" + strings.Repeat("é", 15), strings.Repeat("é", 16), "a" + strings.Repeat("é", 23)} {
		holdTenant(t, s, false)
		holdTarget(t, s, false)
	}
}

// Each byte stands at each place of a name of a few bytes, and of the longest ones.
func TestEachByteOfAName(t *testing.T) {
	for _, size := range []int{1, 2, 3, 5, 15, 16, 24} {
		for at := range size {
			inTenant, inTarget := ofTenant, ofTarget
			if at == 0 {
				inTenant, inTarget = letters, ofTenant
			}
			for x := range 256 {
				b := bytes.Repeat([]byte{'a'}, size)
				b[at] = byte(x)
				holdTenant(t, string(b), size <= 16 && strings.IndexByte(inTenant, byte(x)) >= 0)
				holdTarget(t, string(b), strings.IndexByte(inTarget, byte(x)) >= 0)
			}
		}
	}
}

func TestStrangeTextsAreNoNames(t *testing.T) {
	for _, s := range strange {
		holdTenant(t, s, false)
		holdTarget(t, s, false)
	}
}

func TestNamesAsThePatternsTell(t *testing.T) {
	hold := func(s string) {
		holdTenant(t, s, tenants.MatchString(s))
		holdTarget(t, s, targets.MatchString(s))
	}
	eachText("az09-.:A \xff", 4, hold)
	for _, s := range someTexts(ofTarget, 27, 20000) {
		hold(s)
	}
	for _, s := range someTexts(allBytes(), 27, 20000) {
		hold(s)
	}
}

// P7.1: numbers

func holdNumber(t *testing.T, s string, want uint64, err api.Errno) {
	t.Helper()
	if n, e := name.Number(s); n != want || e != err {
		t.Errorf("%.60q: %d, error %d, not %d, error %d", s, n, e, want, err)
	}
}

func TestDigits(t *testing.T) {
	for s, n := range map[string]uint64{
		"0": 0, "1": 1, "9": 9, "10": 10, "11": 11, "100": 100, "255": 255, "4294967295": 1<<32 - 1, "4294967296": 1 << 32,
		"9223372036854775807": 1<<63 - 1, "9223372036854775808": 1 << 63, "9999999999999999999": 9999999999999999999, "10000000000000000000": 10000000000000000000,
		"18446744073709551614": most - 1, "18446744073709551615": most,
	} {
		if got := name.Digits(n); got != s {
			t.Errorf("%d: %q", n, got)
		}
		holdNumber(t, s, n, api.OK)
	}
}

func TestNumbersOfEachLength(t *testing.T) {
	digits := "12345678901234567890"
	want := uint64(0)
	for i := range 20 {
		want = want*10 + uint64(digits[i]-'0')
		holdNumber(t, digits[:i+1], want, api.OK)
	}
	for i := range 19 {
		holdNumber(t, strings.Repeat("9", i+1), uint64(math.Pow10(i+1))-1, api.OK)
	}
	for i := range 20 {
		power := uint64(1)
		for range i {
			power *= 10
		}
		holdNumber(t, "1"+strings.Repeat("0", i), power, api.OK)
	}
}

func TestNumbersThatAreTooGreat(t *testing.T) {
	for _, s := range []string{
		"18446744073709551616", "18446744073709551617", "18446744073709551620", "18446744073709551700", "18446744073709552000", "18446744073709600000", "19000000000000000000", "20000000000000000000",
		"36893488147419103232", "55340232221128654848", "99999999999999999999", "100000000000000000000", "184467440737095516150", "184467440737095516160", "340282366920938463463374607431768211456",
		"1" + strings.Repeat("0", 64), "1" + strings.Repeat("0", 1000), strings.Repeat("9", 1<<16), strings.Repeat("1", 1<<20),
	} {
		holdNumber(t, s, 0, api.ErrRange)
	}
}

func TestWhatIsNoNumber(t *testing.T) {
	for _, s := range []string{
		"", "-", "+", "-0", "+0", "-1", "+1", "00", "000", "01", "007", "0123", "018446744073709551615", "018446744073709551616", "0" + strings.Repeat("0", 1000), "0" + strings.Repeat("9", 1000),
		"a", "1a", "a1", "0x10", "0b1", "0o7", "0_1", "1_000", "1,000", "1.0", "1.", ".1", "1e3", "1E3", "ff", "0x", "Inf", "NaN", "1 ", " 1", "1\n", "\t1", "1 2", "1\x00", "\x001",
		"1é", "é1", "١", "１２", "1\xff", "\xff1", "\x80", "1\x80", "/", ":", "1/", "1:", "/1", ":1",
	} {
		holdNumber(t, s, 0, api.ErrForm)
	}
	for _, s := range strange {
		holdNumber(t, s, 0, api.ErrForm)
	}
}

// A text that is too great, were its digits all there is, is none for its form: that is asked first.
func TestFormOfANumberComesFirst(t *testing.T) {
	nines := strings.Repeat("9", 1<<12)
	for _, s := range []string{"18446744073709551616a", "99999999999999999999 ", "-18446744073709551616", "+18446744073709551616", "99999999999999999999.0", nines + "a", "a" + nines, "0" + nines, nines + "-", nines + "\xff", nines + " " + nines, nines + "_" + nines} {
		holdNumber(t, s, 0, api.ErrForm)
	}
}

func TestNumbersAsThePatternTells(t *testing.T) {
	hold := func(s string) {
		if !numbers.MatchString(s) {
			holdNumber(t, s, 0, api.ErrForm)
			return
		}
		n, _ := new(big.Int).SetString(s, 10)
		if n.IsUint64() {
			holdNumber(t, s, n.Uint64(), api.OK)
		} else {
			holdNumber(t, s, 0, api.ErrRange)
		}
	}
	eachText("0189-+_xa ", 4, hold)
	for _, s := range someTexts("0123456789", 24, 20000) {
		hold(s)
		hold("1" + s)
	}
	for _, s := range someTexts("0123456789/:-+. _eaxA\xff", 24, 20000) {
		hold(s)
	}
}

// P7.1: bytes

func holdBytes(t *testing.T, s string, want []byte, err api.Errno) {
	t.Helper()
	if b, e := name.Bytes(s); !bytes.Equal(b, want) || e != err {
		t.Errorf("%.60q: %v, error %d, not %v, error %d", s, b, e, want, err)
	}
}

func TestBytes(t *testing.T) {
	for _, x := range []struct {
		s string
		b []byte
	}{
		{"-", nil}, {"00ff", []byte{0, 255}}, {"00", []byte{0}}, {"ff", []byte{255}}, {"01", []byte{1}}, {"10", []byte{16}}, {"0f", []byte{15}}, {"f0", []byte{240}}, {"7f", []byte{127}}, {"80", []byte{128}},
		{"0000", []byte{0, 0}}, {"ffff", []byte{255, 255}}, {"a1b2c3", []byte{0xa1, 0xb2, 0xc3}}, {"61636d65", []byte("acme")}, {"0123456789abcdef", []byte{0x01, 0x23, 0x45, 0x67, 0x89, 0xab, 0xcd, 0xef}}, {"2d", []byte("-")},
	} {
		if got := name.Hex(x.b); got != x.s {
			t.Errorf("%v: %q, not %q", x.b, got, x.s)
		}
		holdBytes(t, x.s, x.b, api.OK)
	}
	if got := name.Hex([]byte{}); got != "-" {
		t.Errorf("no bytes: %q", got)
	}
}

func TestEachByte(t *testing.T) {
	for x := range 256 {
		b := []byte{byte(x)}
		if got := name.Hex(b); got != hex.EncodeToString(b) {
			t.Errorf("%d: %q", x, got)
		}
		holdBytes(t, hex.EncodeToString(b), b, api.OK)
	}
}

func TestWhatIsNoBytes(t *testing.T) {
	for _, s := range []string{
		"", "0", "f", "000", "00f", "00ff0", "--", "---", "-0", "0-", "-00", "00-", "-00ff", "00-ff", "- ", " -", "FF", "fF", "Ff", "00FF", "0A", "A0", "aB", "0g", "g0", "gg", "zz", "0x00", "0x", "x0", "00 ff", "00ff ", " 00ff", " 0", "0 ",
		"0/", "/0", "0:", ":0", "0@", "@0", "0`", "`0", "00\n", "\n0", "0\x00", "\x00\x00", "+0", "+1", "_0", "0_", "é", "00é", "é00", "0é0", "٠٠", "００", "\xff", "\xff\xff", "0\xff", "\xff0", "00\xff\xff", "0\x80", "\u2010", "–",
	} {
		holdBytes(t, s, nil, api.ErrForm)
	}
	for _, s := range strange {
		holdBytes(t, s, nil, api.ErrForm)
	}
	for _, s := range []string{strings.Repeat("0", 1<<16+1), strings.Repeat("f", 1<<16) + "F0", strings.Repeat("f", 1<<16) + "-", "-" + strings.Repeat("f", 1<<16)} {
		holdBytes(t, s, nil, api.ErrForm)
	}
}

// Each byte stands at each place of four digits.
func TestEachSignOfBytes(t *testing.T) {
	for at := range 4 {
		for x := range 256 {
			s := []byte("1234")
			s[at] = byte(x)
			if hexes.Match(s) {
				want, _ := hex.DecodeString(string(s))
				holdBytes(t, string(s), want, api.OK)
			} else {
				holdBytes(t, string(s), nil, api.ErrForm)
			}
		}
	}
}

func TestBytesAsThePatternTells(t *testing.T) {
	hold := func(s string) {
		if !hexes.MatchString(s) {
			holdBytes(t, s, nil, api.ErrForm)
			return
		}
		want, _ := hex.DecodeString(strings.TrimPrefix(s, "-"))
		holdBytes(t, s, want, api.OK)
	}
	eachText("09afgAF- \xff", 4, hold)
	for _, s := range someTexts("0123456789abcdef", 40, 5000) {
		hold(s)
	}
	for _, s := range someTexts("0123456789abcdefABCDEF-g\xff", 8, 20000) {
		hold(s)
	}
}

func TestBytesAreNewMemory(t *testing.T) {
	room := []byte{1, 2, 0xee, 0xee, 0xee, 0xee, 0xee, 0xee}
	text := name.Hex(room[:2])
	if !bytes.Equal(room, []byte{1, 2, 0xee, 0xee, 0xee, 0xee, 0xee, 0xee}) {
		t.Error("what was handed in is changed:", room)
	}
	room[0] = 9
	if text != "0102" {
		t.Error("what was handed in is kept:", text)
	}
	one, _ := name.Bytes("0102")
	other, _ := name.Bytes("0102")
	one[0] = 9
	_ = append(one[:1], 9)
	if !bytes.Equal(other, []byte{1, 2}) {
		t.Error("two answers share memory:", other)
	}
}

// P7.2

func holdWords(t *testing.T, line string, want ...string) {
	t.Helper()
	if l, e := name.Words(line); !slices.Equal(l, want) || e != api.OK {
		t.Errorf("%q: %q, error %d, not %q", line, l, e, want)
	}
}

func holdNoLine(t *testing.T, line string) {
	t.Helper()
	if l, e := name.Words(line); l != nil || e != api.ErrForm {
		t.Errorf("%.60q: %q, error %d", line, l, e)
	}
}

func TestWords(t *testing.T) {
	holdWords(t, "")
	holdWords(t, "a", "a")
	holdWords(t, "boot", "boot")
	holdWords(t, "a b", "a", "b")
	holdWords(t, "cap acme 100", "cap", "acme", "100")
	holdWords(t, "open 1 9.example:80", "open", "1", "9.example:80")
	holdWords(t, "a b c d e f", "a", "b", "c", "d", "e", "f")
	holdWords(t, "a a a", "a", "a", "a")
	holdWords(t, "bytes 1 -", "bytes", "1", "-")
	holdWords(t, "Great, LETTERS; and #signs!", "Great,", "LETTERS;", "and", "#signs!")
	holdWords(t, "! ~", "!", "~")
	holdWords(t, "\x21 \x7f \x80 \xff", "\x21", "\x7f", "\x80", "\xff")
	holdWords(t, "\xff", "\xff")
	holdWords(t, "a\xffb \xc3 \xe2\x82", "a\xffb", "\xc3", "\xe2\x82")
	holdWords(t, "é ö", "é", "ö")
	holdWords(t, "a\u00a0b c\u0085d \u2003 \u2028 \ufeff \ufffd", "a\u00a0b", "c\u0085d", "\u2003", "\u2028", "\ufeff", "\ufffd")
	holdWords(t, "\xed\xa0\x80 \xc0\xa0 \xa0", "\xed\xa0\x80", "\xc0\xa0", "\xa0")
}

func TestManyWords(t *testing.T) {
	for _, count := range []int{1, 2, 3, 100, 1 << 16} {
		want := make([]string, count)
		for i := range want {
			want[i] = name.Digits(uint64(i))
		}
		holdWords(t, strings.Join(want, " "), want...)
		holdNoLine(t, strings.Join(want, " ")+" ")
		holdNoLine(t, strings.Join(want, " ")+"  a")
	}
	long := strings.Repeat("x", 1<<20)
	holdWords(t, long, long)
	holdWords(t, long+" "+long, long, long)
	holdNoLine(t, long+"\n")
	holdNoLine(t, strings.Repeat(" ", 1<<20))
	holdNoLine(t, strings.Repeat("a ", 1<<20))
}

func TestWhatIsNoLine(t *testing.T) {
	for _, line := range []string{
		" ", "  ", "   ", " a", "a ", " a ", "a  b", "a   b", "  a", "a  ", "a b ", " a b", "a b  c", "a  b c", "\xff ", " \xff", "\xff  \xff", "é  é", "é ", " é",
		"\n", "\t", "\x00", "a\n", "\na", "a\nb", "a\tb", "a \tb", "a\t b", "a\r\n", "a\r", "a\x00", "\x00a", "a b\n", "a\x1f", "\x1fa", "a \x1f", "\x1f", "a\x1b[0m", "a\vb", "a\fb",
	} {
		holdNoLine(t, line)
	}
}

// Each byte stands alone, at the beginning, in the middle, at the end, and between two blanks.
func TestEachByteOfALine(t *testing.T) {
	for x := range 256 {
		s := string([]byte{byte(x)})
		all := []string{s, s + "ab", "a" + s + "b", "ab" + s, "a " + s + " b", s + s, "a" + s + s + "b", s + " " + s}
		if x > 32 {
			holdWords(t, all[0], s)
			holdWords(t, all[1], s+"ab")
			holdWords(t, all[2], "a"+s+"b")
			holdWords(t, all[3], "ab"+s)
			holdWords(t, all[4], "a", s, "b")
			holdWords(t, all[5], s+s)
			holdWords(t, all[6], "a"+s+s+"b")
			holdWords(t, all[7], s, s)
			continue
		}
		for i, line := range all {
			if x == 32 && i == 2 {
				holdWords(t, line, "a", "b")
			} else {
				holdNoLine(t, line)
			}
		}
	}
}

func TestLinesAsThePatternTells(t *testing.T) {
	hold := func(line string) {
		if !lines.MatchString(line) {
			holdNoLine(t, line)
		} else if line == "" {
			holdWords(t, line)
		} else {
			holdWords(t, line, strings.Split(line, " ")...)
		}
	}
	eachText("a!\x7f\x80\xff \x1f\xc3", 5, hold)
	for _, line := range someTexts("abcdef  ", 12, 20000) {
		hold(line)
	}
	for _, line := range someTexts(allBytes()[32:]+"        ", 24, 20000) {
		hold(line)
	}
	for _, line := range someTexts(allBytes(), 6, 20000) {
		hold(line)
	}
}

func TestWordsAreNewMemory(t *testing.T) {
	one, _ := name.Words("a b c")
	other, _ := name.Words("a b c")
	one[0] = "x"
	_ = append(one[:1], "y")
	if !slices.Equal(other, []string{"a", "b", "c"}) {
		t.Error("two answers share memory:", other)
	}
}

// P7.3

func TestNumbersComeBack(t *testing.T) {
	next := noise()
	l := []uint64{0, 1, 9, 10, 11, 99, 100, 101, most, most - 1, 1 << 63, 1<<63 - 1}
	for i := range 64 {
		power := uint64(1) << i
		l = append(l, power-1, power, power+1, next()>>i, next()>>i)
	}
	for power, more := uint64(1), true; more; power, more = power*10, power < most/10 {
		l = append(l, power-1, power, power+1)
	}
	for n := range uint64(20000) {
		l = append(l, n)
	}
	for _, n := range l {
		s := name.Digits(n)
		holdNumber(t, s, n, api.OK)
		if s != whole(n).String() {
			t.Errorf("%d: %q", n, s)
		}
		holdWords(t, s, s)
		if !name.Target(s) {
			t.Errorf("%q is no target's name", s)
		}
	}
}

func whole(n uint64) *big.Int {
	return new(big.Int).SetUint64(n)
}

func TestDigitsComeBack(t *testing.T) {
	for _, s := range someTexts("0123456789", 21, 20000) {
		if n, e := name.Number(s); e == api.OK && name.Digits(n) != s {
			t.Errorf("%q comes back as %q", s, name.Digits(n))
		}
	}
}

func TestBytesComeBack(t *testing.T) {
	l := someTexts(allBytes(), 64, 5000)
	for _, size := range []int{0, 1, 2, 3, 255, 256, 257, 1 << 12, 1 << 16} {
		for _, sign := range []string{"\x00", "\xff", "\x80", "-", "0", "\x0f", "\xf0"} {
			l = append(l, strings.Repeat(sign, size))
		}
	}
	for _, b := range append(l, allBytes()) {
		s := name.Hex([]byte(b))
		holdBytes(t, s, []byte(b), api.OK)
		if len(b) > 0 && s != hex.EncodeToString([]byte(b)) {
			t.Errorf("%q: %q", b, s)
		}
		holdWords(t, s, s)
	}
}

func TestDigitsOfBytesComeBack(t *testing.T) {
	eachText("09af-AF", 5, func(s string) {
		if b, e := name.Bytes(s); e == api.OK && name.Hex(b) != s {
			t.Errorf("%q comes back as %q", s, name.Hex(b))
		}
	})
}

func TestATenantsNameIsATargets(t *testing.T) {
	found := 0
	hold := func(s string) {
		if name.Tenant(s) {
			found++
			if !name.Target(s) {
				t.Errorf("%q is a tenant's name, and no target's", s)
			}
		}
	}
	eachText("az09-.:", 4, hold)
	for _, s := range someTexts(ofTenant, 17, 20000) {
		hold(s)
		hold("a" + s)
	}
	if found < 10000 {
		t.Error("names that were found:", found)
	}
}

func TestNamesAreWords(t *testing.T) {
	found := 0
	hold := func(s string) {
		if name.Tenant(s) || name.Target(s) {
			found++
			holdWords(t, s, s)
			holdWords(t, "cap "+s+" 100", "cap", s, "100")
		}
	}
	for x := range 256 {
		hold(string([]byte{byte(x)}))
		hold(string([]byte{'a', byte(x)}))
	}
	for _, s := range someTexts(ofTarget, 25, 20000) {
		hold(s)
	}
	if found < 10000 {
		t.Error("names that were found:", found)
	}
}

func TestWordsComeBack(t *testing.T) {
	for _, line := range someTexts("abc\xff!    ", 20, 20000) {
		if l, e := name.Words(line); e == api.OK && strings.Join(l, " ") != line {
			t.Errorf("%q comes back as %q", line, l)
		}
	}
}
