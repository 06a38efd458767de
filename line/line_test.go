package line_test

import (
	"bytes"
	"encoding/hex"
	"math"
	"math/big"
	"regexp"
	"slices"
	"strings"
	"testing"

	"taximeter/api"
	"taximeter/line"
)

const (
	most      = uint64(math.MaxUint64)
	mostSmall = uint64(1<<31 - 1)
)

// Lines and words, told by patterns, apart from the program.
var (
	lines   = regexp.MustCompile(`\A([^\x00-\x20]+( [^\x00-\x20]+)*)?\z`)
	tenants = regexp.MustCompile(`\A[a-z][a-z0-9-]{0,15}\z`)
	targets = regexp.MustCompile(`\A[a-z0-9-][a-z0-9.:-]{0,23}\z`)
	numbers = regexp.MustCompile(`\A(0|[1-9][0-9]*)\z`)
	hexes   = regexp.MustCompile(`\A(-|([0-9a-f]{2})+)\z`)
)

// words are of each form, and of none, around each limit.
var words = []string{
	"a", "acme", "a-1", "tenant-of-16-let", "tenant-of-17-lett", "1a", "-", "--", "-a", "a:1", "a.b", ".a", ":a", ".", "9.example:80", "target.of-24.letters:443", "target.of-25.letters:8080", "Acme", "a_b", "é", "a\xff", "\xff", "~",
	"0", "1", "7", "9", "10", "00", "01", "007", "-0", "-1", "+1", "1.0", "1e3", "0x10", "2147483646", "2147483647", "2147483648", "2147483649", "4294967295", "4294967296", "4294967297", "6442450943",
	"9223372036854775807", "9223372036854775808", "18446744073709551614", "18446744073709551615", "18446744073709551616", "18446744073709551617", "20000000000000000000", "99999999999999999999", "02147483648", "018446744073709551616", "340282366920938463463374607431768211456",
	"00ff", "ff", "0f", "f", "fff", "00FF", "0g", "abcdef", "0123456789abcdef", "-00", "00-",
}

// noise makes numbers of all bits, ever the same ones.
func noise() func() uint64 {
	x := uint64(88172645463325252)
	return func() uint64 {
		x ^= x << 13
		x ^= x >> 7
		x ^= x << 17
		return x * 2685821657736338717
	}
}

// someText is of signs, of up to a length.
func someText(next func() uint64, signs string, longest int) string {
	b := make([]byte, next()%uint64(longest+1))
	for i := range b {
		b[i] = signs[next()%uint64(len(signs))]
	}
	return string(b)
}

// field is what a sign says of a word, by the patterns and by numbers of any length.
func field(sign byte, word string) (line.Field, api.Errno) {
	switch {
	case sign == 't' && tenants.MatchString(word), sign == 'h' && targets.MatchString(word):
		return line.Field{Text: word}, api.OK
	case sign == 'b' && hexes.MatchString(word):
		b, _ := hex.DecodeString(strings.TrimPrefix(word, "-"))
		return line.Field{Data: b}, api.OK
	case (sign == 'n' || sign == 's') && numbers.MatchString(word):
		n, _ := new(big.Int).SetString(word, 10)
		if n.BitLen() > 64 || sign == 's' && n.BitLen() > 31 {
			return line.Field{}, api.ErrRange
		}
		return line.Field{N: n.Uint64()}, api.OK
	}
	return line.Field{}, api.ErrForm
}

// fields is what Read is to answer, in the order of the chapter.
func fields(text, word, pattern string) ([]line.Field, api.Errno) {
	if strings.Trim(pattern, "thnbs") != "" || !lines.MatchString(text) || text == "" {
		return nil, api.ErrForm
	}
	all := strings.Split(text, " ")
	if all[0] != word || len(all) != len(pattern)+1 {
		return nil, api.ErrForm
	}
	l := []line.Field{}
	for i, w := range all[1:] {
		f, e := field(pattern[i], w)
		if e != api.OK {
			return nil, e
		}
		l = append(l, f)
	}
	return l, api.OK
}

func digits(b []byte) string {
	if len(b) == 0 {
		return "-"
	}
	return hex.EncodeToString(b)
}

func same(a, b line.Field) bool {
	return a.Text == b.Text && a.N == b.N && bytes.Equal(a.Data, b.Data)
}

func holdRead(t *testing.T, text, word, pattern string, want ...line.Field) {
	t.Helper()
	l, e := line.Read(text, word, pattern)
	if e != api.OK || !slices.EqualFunc(l, want, same) {
		t.Errorf("%.80q, by %.80q and %.80q: %v, error %d, not %v", text, word, pattern, l, e, want)
	}
}

func holdNoRead(t *testing.T, text, word, pattern string, want api.Errno) {
	t.Helper()
	if l, e := line.Read(text, word, pattern); e != want || len(l) > 0 {
		t.Errorf("%.80q, by %.80q and %.80q: %v, error %d, not %d", text, word, pattern, l, e, want)
	}
}

func holdWrite(t *testing.T, word, pattern, want string, l ...line.Field) {
	t.Helper()
	if text, e := line.Write(word, pattern, l); e != api.OK || text != want {
		t.Errorf("%.80q, %.80q, %v: %.80q, error %d, not %.80q", word, pattern, l, text, e, want)
	}
}

func holdNoWrite(t *testing.T, word, pattern string, want api.Errno, l ...line.Field) {
	t.Helper()
	if text, e := line.Write(word, pattern, l); e != want || text != "" {
		t.Errorf("%.80q, %.80q, %v: %.80q, error %d, not %d", word, pattern, l, text, e, want)
	}
}

// holdAsTold holds Read, and Write of what it answers, against what the patterns tell.
func holdAsTold(t *testing.T, text, word, pattern string) bool {
	t.Helper()
	l, e := fields(text, word, pattern)
	if e != api.OK {
		holdNoRead(t, text, word, pattern, e)
		return false
	}
	holdRead(t, text, word, pattern, l...)
	holdWrite(t, word, pattern, text, l...)
	return true
}

// text, number, data are fields of one part.
func text(s string) line.Field   { return line.Field{Text: s} }
func number(n uint64) line.Field { return line.Field{N: n} }
func data(b ...byte) line.Field  { return line.Field{Data: b} }

// P8.1: lines that fit

func TestExample(t *testing.T) {
	holdRead(t, "cap acme 100", "cap", "tn", text("acme"), number(100))
	holdWrite(t, "cap", "tn", "cap acme 100", text("acme"), number(100))
}

func TestLinesThatFit(t *testing.T) {
	for _, x := range []struct {
		text, word, pattern string
		l                   []line.Field
	}{
		{"commit", "commit", "", nil},
		{"x", "x", "", nil},
		{"1", "1", "", nil},
		{"-", "-", "", nil},
		{"\xff", "\xff", "", nil},
		{"close acme", "close", "t", []line.Field{text("acme")}},
		{"open 9.example:80", "open", "h", []line.Field{text("9.example:80")}},
		{"period 18446744073709551615", "period", "n", []line.Field{number(most)}},
		{"boot 0", "boot", "s", []line.Field{number(0)}},
		{"give 00ff", "give", "b", []line.Field{data(0, 255)}},
		{"give -", "give", "b", []line.Field{{}}},
		{"arm 3 2147483647", "arm", "ns", []line.Field{number(3), number(mostSmall)}},
		{"tenant a 6b", "tenant", "tb", []line.Field{text("a"), data('k')}},
		{"target 1 2 00ff", "target", "ssb", []line.Field{number(1), number(2), data(0, 255)}},
		{"x acme 7 00ff a:1", "x", "tnbh", []line.Field{text("acme"), number(7), data(0, 255), text("a:1")}},
		{"statement a 0 10 100 0 0", "statement", "tnnnnn", []line.Field{text("a"), number(0), number(10), number(100), number(0), number(0)}},
		{"a a a a", "a", "tht", []line.Field{text("a"), text("a"), text("a")}},
		{"1 1 1 10 1", "1", "hnbs", []line.Field{text("1"), number(1), data(16), number(1)}},
		{"- - -", "-", "hb", []line.Field{text("-"), {}}},
		{"A_b! a", "A_b!", "t", []line.Field{text("a")}},
		{"é a", "é", "t", []line.Field{text("a")}},
		{"\xff\x7f~ 5", "\xff\x7f~", "n", []line.Field{number(5)}},
	} {
		holdRead(t, x.text, x.word, x.pattern, x.l...)
		holdWrite(t, x.word, x.pattern, x.text, x.l...)
	}
}

func TestALineOfManyWords(t *testing.T) {
	for _, count := range []int{1, 2, 3, 7, 100, 1 << 12} {
		want := []line.Field{}
		long := "x"
		for i := range count {
			long += " acme 9.example:80 " + big.NewInt(int64(i)).String() + " 0aff 7"
			want = append(want, text("acme"), text("9.example:80"), number(uint64(i)), data(10, 255), number(7))
		}
		pattern := strings.Repeat("thnbs", count)
		holdRead(t, long, "x", pattern, want...)
		holdWrite(t, "x", pattern, long, want...)
		holdNoRead(t, long, "x", pattern[1:], api.ErrForm)
		holdNoRead(t, long, "x", pattern+"n", api.ErrForm)
		holdNoRead(t, long+" -1", "x", pattern+"s", api.ErrForm)
		holdNoRead(t, long+" 2147483648", "x", pattern+"s", api.ErrRange)
		holdNoWrite(t, "x", pattern, api.ErrForm, want[1:]...)
	}
}

func TestNumbersOfASign(t *testing.T) {
	for s, n := range map[string]uint64{"0": 0, "1": 1, "255": 255, "256": 256, "65536": 1 << 16, "2147483646": mostSmall - 1, "2147483647": mostSmall} {
		holdRead(t, "x "+s, "x", "s", number(n))
		holdWrite(t, "x", "s", "x "+s, number(n))
		holdRead(t, "x "+s, "x", "n", number(n))
		holdWrite(t, "x", "n", "x "+s, number(n))
	}
	for s, n := range map[string]uint64{
		"2147483648": 1 << 31, "2147483649": 1<<31 + 1, "4294967295": 1<<32 - 1, "4294967296": 1 << 32, "4294967297": 1<<32 + 1, "9223372036854775807": 1<<63 - 1, "9223372036854775808": 1 << 63, "18446744073709551614": most - 1, "18446744073709551615": most,
	} {
		holdNoRead(t, "x "+s, "x", "s", api.ErrRange)
		holdNoWrite(t, "x", "s", api.ErrRange, number(n))
		holdRead(t, "x "+s, "x", "n", number(n))
		holdWrite(t, "x", "n", "x "+s, number(n))
	}
	for _, s := range []string{"18446744073709551616", "18446744073709551617", "18446744075857035264", "99999999999999999999", "100000000000000000000", strings.Repeat("9", 1000)} {
		holdNoRead(t, "x "+s, "x", "s", api.ErrRange)
		holdNoRead(t, "x "+s, "x", "n", api.ErrRange)
	}
	for _, s := range []string{"00", "01", "02147483648", "018446744073709551616", "-", "-0", "-1", "+0", "0x1", "1e3", "1.0", "a", "1a", "18446744073709551616a", "１", "1\xff"} {
		holdNoRead(t, "x "+s, "x", "s", api.ErrForm)
		holdNoRead(t, "x "+s, "x", "n", api.ErrForm)
	}
}

func TestNamesOfASign(t *testing.T) {
	for _, size := range []int{1, 2, api.MaxName - 1, api.MaxName, api.MaxName + 1, api.MaxTarget - 1, api.MaxTarget, api.MaxTarget + 1, 256, 1 << 16} {
		s := strings.Repeat("a", size)
		for sign, limit := range map[string]int{"t": api.MaxName, "h": api.MaxTarget} {
			if size > limit {
				holdNoRead(t, "x "+s, "x", sign, api.ErrForm)
				holdNoWrite(t, "x", sign, api.ErrForm, text(s))
				continue
			}
			holdRead(t, "x "+s, "x", sign, text(s))
			holdWrite(t, "x", sign, "x "+s, text(s))
		}
	}
	for _, s := range []string{"1a", "1", "-", "-a", "a.b", "a:1", "9.example:80"} {
		holdNoRead(t, "x "+s, "x", "t", api.ErrForm)
		holdNoWrite(t, "x", "t", api.ErrForm, text(s))
		holdRead(t, "x "+s, "x", "h", text(s))
		holdWrite(t, "x", "h", "x "+s, text(s))
	}
	for _, s := range []string{".", ":", ".a", ":80", "Acme", "a_b", "a/b", "é", "\xff", "a\xff", "a\x7f"} {
		for _, sign := range []string{"t", "h"} {
			holdNoRead(t, "x "+s, "x", sign, api.ErrForm)
			holdNoWrite(t, "x", sign, api.ErrForm, text(s))
		}
	}
}

func TestBytesOfASign(t *testing.T) {
	for s, b := range map[string][]byte{"-": nil, "00": {0}, "ff": {255}, "2d": {'-'}, "00ff": {0, 255}, "0123456789abcdef": {0x01, 0x23, 0x45, 0x67, 0x89, 0xab, 0xcd, 0xef}} {
		holdRead(t, "x "+s, "x", "b", data(b...))
		holdWrite(t, "x", "b", "x "+s, data(b...))
	}
	holdWrite(t, "x", "b", "x -", line.Field{Data: []byte{}})
	holdWrite(t, "x", "b", "x -", line.Field{})
	holdWrite(t, "x", "bbb", "x - 00 -", data(), data(0), data())
	for _, size := range []int{1, api.MaxBody - 1, api.MaxBody, api.MaxBody + 1, 1 << 16} {
		b := bytes.Repeat([]byte{0xa5}, size)
		holdRead(t, "x "+strings.Repeat("a5", size), "x", "b", data(b...))
		holdWrite(t, "x", "b", "x "+strings.Repeat("a5", size), data(b...))
	}
	for _, s := range []string{"0", "f", "000", "--", "-00", "00-", "FF", "0g", "0x00", "x", "é", "\xff\xff"} {
		holdNoRead(t, "x "+s, "x", "b", api.ErrForm)
	}
}

// Each word stands alone behind a sign, and ahead of, and behind each other one.
func TestEachWordBehindEachSign(t *testing.T) {
	found := 0
	for _, sign := range []string{"t", "h", "n", "b", "s"} {
		for _, w := range words {
			if holdAsTold(t, "x "+w, "x", sign) {
				found++
			}
			for _, other := range words {
				holdAsTold(t, "x "+w+" "+other, "x", sign+"s")
				holdAsTold(t, "x "+other+" "+w, "x", "h"+sign)
				holdAsTold(t, "x "+other+" "+w, "x", "n"+sign)
			}
		}
	}
	if found < 50 {
		t.Error("words that fit:", found)
	}
}

// P8.1: lines that do not

// others are no signs: great letters, names of kinds, signs of more than one byte, some of which end in a sign's number, and what is no UTF-8.
var others = []string{
	"T", "H", "N", "B", "S", "a", "c", "i", "m", "o", "r", "u", "g", "x", "0", "7", "-", " ", "\x00", "\n", "%", "*", "?", "é", "ｔ", "т", "ѕ", "ћ", "Ŵ", "ũ", "\u0174", "\u0168", "\u016e", "\u0162", "\u0173", "\U00010074", "\U0001f574",
	"\u0000", "\ufffd", "\ufeff", "t\u0308", "\x80", "\xff", "\xc3", "\xe2\x82", "\xf4", "\xed\xa0\x80", "\xc1\xb4", "\xf4\x90\x80\x80",
}

func TestPatternsWithAnotherSign(t *testing.T) {
	for x := range 256 {
		sign := string([]byte{byte(x)})
		if strings.Contains("thnbs", sign) {
			continue
		}
		holdNoPattern(t, sign)
	}
	for _, sign := range others {
		holdNoPattern(t, sign)
	}
}

// holdNoPattern puts a sign that is none at each place of a pattern: with lines that would fit, were it left out or a sign, also one a byte, and with lines that do not fit for other reasons.
func holdNoPattern(t *testing.T, sign string) {
	t.Helper()
	for _, pattern := range []string{sign, sign + "n", "n" + sign, "n" + sign + "n", "nn" + sign, sign + sign, strings.Repeat("n", 20) + sign, sign + "q", "ns" + sign + "s"} {
		for _, text := range []string{
			"x", "x a", "x 7", "x 7 7", "x 7 7 7", "x 7 7 7 7", "x 7 7 7 7 7", "x 10 10", "x" + strings.Repeat(" 7", 20), "x" + strings.Repeat(" 7", 21), "x 7 " + sign, "x " + sign,
			"", " ", "x ", " x", "x  7", "x 7 ", "x\n", "x \t", "y", "y 7", "y 7 7", "x -", "x 01", "x 7 01", "x 01 7", "x 7 7 01", "x 2147483648", "x 7 2147483648", "x 7 7 2147483648", "x 7 7 7 2147483648",
			"x 18446744073709551616", "x 18446744073709551616 7", "x 7 18446744073709551616", "x 7 18446744073709551616 7", "x 18446744073709551616 7 7", "x 18446744073709551616 18446744073709551616 18446744073709551616",
		} {
			holdNoRead(t, text, "x", pattern, api.ErrForm)
		}
		for _, word := range []string{"x", "y", "", "x 7", sign} {
			for count := range 25 {
				holdNoWrite(t, word, pattern, api.ErrForm, make([]line.Field, count)...)
			}
		}
		holdNoWrite(t, "x", pattern, api.ErrForm, text("a"))
		holdNoWrite(t, "x", pattern, api.ErrForm, number(most), number(most), number(most))
	}
}

func TestLinesThatAreNone(t *testing.T) {
	for _, x := range []struct{ text, word, pattern string }{
		{"", "", ""}, {"", "x", ""}, {"", "", "n"}, {"", "x", "n"}, {" ", "", ""}, {" ", " ", ""}, {" ", "", "n"}, {"  ", "", "nn"}, {" x", "x", ""}, {" x", "", "t"}, {"x ", "x", ""}, {"x ", "x", "t"}, {"x ", "x ", ""}, {" 7", "", "n"},
		{"x  7", "x", "n"}, {"x  7", "x", "tn"}, {"x 7 ", "x", "n"}, {"x 7 ", "x", "nn"}, {" x 7", "x", "n"}, {"x a  b", "x", "tt"}, {"x a  b", "x", "ttt"},
		{"x\t7", "x", "n"}, {"x 7\n", "x", "n"}, {"x 7\r", "x", "n"}, {"\nx 7", "x", "n"}, {"x\n", "x", ""}, {"x\n", "x\n", ""}, {"x\x00", "x", ""}, {"x\x00", "x\x00", ""}, {"x\x1f 7", "x\x1f", "n"}, {"x a\x1f", "x", "t"}, {"\n", "\n", ""}, {"x 7\ny 7", "x", "nn"},
		{"x 2147483648 ", "x", "s"}, {"x 2147483648\n", "x", "s"}, {"x  2147483648", "x", "s"}, {"x 2147483648 \x00", "x", "sh"}, {"x 2147483648 a\n", "x", "sh"}, {"x 18446744073709551616 a\x01", "x", "nh"}, {"x 18446744073709551616  a", "x", "nh"},
	} {
		holdNoRead(t, x.text, x.word, x.pattern, api.ErrForm)
	}
	for x := range 33 {
		b := string([]byte{byte(x)})
		for _, text := range []string{b, b + "x 7", "x" + b, "x 7" + b, "x 18446744073709551616" + b, "x 18446744073709551616 " + b + "a", "x 7" + b + " 7", "x " + b + " 7"} {
			for _, pattern := range []string{"", "n", "nn", "nh", "hh", "hb"} {
				holdNoRead(t, text, "x", pattern, api.ErrForm)
			}
		}
	}
}

func TestAnotherFirstWord(t *testing.T) {
	for _, word := range []string{"", " ", "c", "ca", "caps", "Cap", "CAP", "cap ", " cap", "cap acme", "cap acme 100", "acme", "100", "price", "ca\xff", "сap", "cap\x00", "cap\n", "pac", "t", "tn"} {
		holdNoRead(t, "cap acme 100", word, "tn", api.ErrForm)
		holdNoRead(t, "cap acme 18446744073709551616", word, "tn", api.ErrForm)
		holdNoRead(t, "cap", word, "", api.ErrForm)
		holdNoRead(t, "cap acme", word, "t", api.ErrForm)
		holdNoRead(t, "cap acme 100", word, "n", api.ErrForm)
		holdNoRead(t, "cap acme 100", word, "", api.ErrForm)
	}
	holdNoRead(t, "7", "", "n", api.ErrForm)
	holdNoRead(t, "x y 7", "x y", "n", api.ErrForm)
	holdNoRead(t, "x y", "x y", "", api.ErrForm)
	holdNoRead(t, "x y", "x y", "t", api.ErrForm)
}

func TestAnotherNumberOfWords(t *testing.T) {
	all := []string{"x", "7", "8", "9", "10", "11"}
	for count := 1; count <= len(all); count++ {
		for signs := range 8 {
			for _, sign := range []string{"n", "h", "s"} {
				text, pattern := strings.Join(all[:count], " "), strings.Repeat(sign, signs)
				if fits := holdAsTold(t, text, "x", pattern); fits != (signs == count-1) {
					t.Errorf("%q, by %q: %t", text, pattern, fits)
				}
				if signs != count-1 {
					holdNoRead(t, strings.Replace(text, "7", "18446744073709551616", 1), "x", strings.Replace(pattern, sign, "s", 1), api.ErrForm)
				}
			}
		}
	}
	holdNoRead(t, "x", "x", "b", api.ErrForm)
	holdNoRead(t, "x -", "x", "", api.ErrForm)
	holdNoRead(t, "x x", "x", "", api.ErrForm)
}

// The first word that errs tells the error, whatever stands behind it.
func TestTheFirstWordThatErrs(t *testing.T) {
	for _, x := range []struct {
		text, pattern string
		want          api.Errno
	}{
		{"x 2147483648 -", "sn", api.ErrRange}, {"x - 2147483648", "ns", api.ErrForm},
		{"x 2147483648 A", "st", api.ErrRange}, {"x A 2147483648", "ts", api.ErrForm},
		{"x 2147483648 .", "sh", api.ErrRange}, {"x . 2147483648", "hs", api.ErrForm},
		{"x 2147483648 0", "sb", api.ErrRange}, {"x 0 2147483648", "bs", api.ErrForm},
		{"x 2147483648 01", "ss", api.ErrRange}, {"x 01 2147483648", "ss", api.ErrForm},
		{"x 18446744073709551616 01", "nn", api.ErrRange}, {"x 01 18446744073709551616", "nn", api.ErrForm},
		{"x 18446744073709551616 1a", "nt", api.ErrRange}, {"x 1a 18446744073709551616", "tn", api.ErrForm},
		{"x 18446744073709551616 FF", "nb", api.ErrRange}, {"x FF 18446744073709551616", "bn", api.ErrForm},
		{"x a a:1 7 00 2147483648 A", "thnbst", api.ErrRange}, {"x a a:1 7 00 7 A 2147483648", "thnbsts", api.ErrForm},
		{"x a 7 2147483648 2147483648", "tsns", api.ErrRange}, {"x a 7 2147483648 -", "tsns", api.ErrForm},
		{"x 2147483648 18446744073709551616", "sn", api.ErrRange}, {"x 2147483648 18446744073709551616", "nn", api.ErrRange}, {"x 2147483648 7", "nn", api.OK},
	} {
		if _, e := line.Read(x.text, "x", x.pattern); e != x.want {
			t.Errorf("%q by %q: error %d, not %d", x.text, x.pattern, e, x.want)
		}
		holdAsTold(t, x.text, "x", x.pattern)
	}
}

// Lines of many kinds, by many patterns: of words that fit, of such that do not, and of bytes at random.
func TestLinesAsThePatternsTell(t *testing.T) {
	next := noise()
	found := 0
	for range 40000 {
		text := "x"
		for range next() % 4 {
			text += " " + words[next()%uint64(len(words))]
		}
		if holdAsTold(t, text, "x", someText(next, "thnbs", 3)) {
			found++
		}
		holdAsTold(t, text, someText(next, "xy ", 2), someText(next, "thnbsq\xff", 3))
	}
	if found < 1000 {
		t.Error("lines that fit:", found)
	}
	for range 40000 {
		holdAsTold(t, someText(next, "aaxx10 -:\xff\n", 8), someText(next, "ax1", 2), someText(next, "thnbs", 3))
	}
}

// P8.1: lines that are written

func TestAsManyFieldsAsSigns(t *testing.T) {
	for signs := range 6 {
		for count := range 8 {
			l := slices.Repeat([]line.Field{{Text: "a", N: 7, Data: []byte{1}}}, count)
			for sign, word := range map[string]string{"t": " a", "h": " a", "n": " 7", "s": " 7", "b": " 01"} {
				if pattern := strings.Repeat(sign, signs); signs == count {
					holdWrite(t, "x", pattern, "x"+strings.Repeat(word, count), l...)
				} else {
					holdNoWrite(t, "x", pattern, api.ErrForm, l...)
				}
			}
		}
	}
	// Of other fields than signs it does not matter what they are.
	holdNoWrite(t, "x", "s", api.ErrForm, number(most), number(1))
	holdNoWrite(t, "x", "ss", api.ErrForm, number(most))
	holdNoWrite(t, "x", "", api.ErrForm, number(most))
	holdNoWrite(t, "x", "s", api.ErrForm)
	holdNoWrite(t, "x", "t", api.ErrForm)
	holdWrite(t, "x", "", "x")
	if text, e := line.Write("x", "", []line.Field{}); text != "x" || e != api.OK {
		t.Error(text, e)
	}
}

// A text of two words is no two fields' words, nor does an empty one make up for it.
func TestTextsThatAreWordsToo(t *testing.T) {
	for _, sign := range []string{"t", "h"} {
		for _, s := range []string{"a b", "a 7", "a b c", " a", "a ", " "} {
			holdNoWrite(t, "x", sign, api.ErrForm, text(s))
			holdNoWrite(t, "x", sign+"n", api.ErrForm, text(s))
			holdNoWrite(t, "x", sign+"n", api.ErrForm, text(s), number(7))
			holdNoWrite(t, "x", "n"+sign, api.ErrForm, number(7), text(s))
			holdNoWrite(t, "x", sign+"b", api.ErrForm, text(s), data())
			for _, other := range []string{"", "c", "c d", " "} {
				holdNoWrite(t, "x", sign+"t", api.ErrForm, text(s), text(other))
				holdNoWrite(t, "x", "h"+sign, api.ErrForm, text(other), text(s))
				holdNoWrite(t, "x", sign+"hh", api.ErrForm, text(s), text(other), text(""))
			}
		}
	}
}

func TestWhatSignsDoNotNameIsLeftOut(t *testing.T) {
	for _, s := range []string{"acme", "", "A b", "a b c", "\n", "\xff", strings.Repeat("a", 100)} {
		holdWrite(t, "x", "n", "x 18446744073709551615", line.Field{Text: s, N: most, Data: []byte{0, 255}})
		holdWrite(t, "x", "s", "x 7", line.Field{Text: s, N: 7, Data: []byte{0, 255}})
		holdWrite(t, "x", "b", "x 00ff", line.Field{Text: s, N: most, Data: []byte{0, 255}})
		holdWrite(t, "x", "b", "x -", line.Field{Text: s, N: 1 << 31})
		holdWrite(t, "x", "nb", "x 7 01", line.Field{Text: s, N: 7, Data: []byte{3}}, line.Field{Text: s, N: 9, Data: []byte{1}})
	}
	for _, n := range []uint64{0, 7, 1 << 31, most} {
		holdWrite(t, "x", "t", "x acme", line.Field{Text: "acme", N: n, Data: []byte("b c")})
		holdWrite(t, "x", "h", "x a:1", line.Field{Text: "a:1", N: n, Data: make([]byte, 1000)})
		holdNoWrite(t, "x", "t", api.ErrForm, line.Field{Text: "a:1", N: n, Data: []byte("acme")})
	}
	f := line.Field{Text: "acme", N: 7, Data: []byte{0, 255}}
	holdWrite(t, "x", "thnbs", "x acme acme 7 00ff 7", f, f, f, f, f)
	holdRead(t, "x acme acme 7 00ff 7", "x", "thnbs", text("acme"), text("acme"), number(7), data(0, 255), number(7))
}

func TestWordsThatAreNone(t *testing.T) {
	for _, word := range []string{"", " ", "  ", "x ", " x", "x y", "x  y", "x y z", "x 7", "\n", "x\n", "\nx", "x\t", "x\x00", "\x00", "\x1f", "x\x1fy", "é ", "\xff "} {
		holdNoWrite(t, word, "", api.ErrForm)
		holdNoWrite(t, word, "n", api.ErrForm, number(7))
		holdNoWrite(t, word, "t", api.ErrForm, text("a"))
		holdNoWrite(t, word, "h", api.ErrForm, text(""))
		holdNoWrite(t, word, "s", api.ErrForm, number(1<<31))
		holdNoWrite(t, word, "sn", api.ErrForm, number(1<<31), number(7))
		holdNoWrite(t, word, "tn", api.ErrForm, text("y"), number(7))
	}
	for _, word := range []string{"x", "xy", "x-y", "1", "-", "!", "#", "T", "é", "\xff", "\x7f", "x\xffy", "\u00a0", strings.Repeat("x", 1<<16)} {
		holdWrite(t, word, "", word)
		holdWrite(t, word, "n", word+" 7", number(7))
		holdRead(t, word+" 7", word, "n", number(7))
	}
}

func TestTheErrorThatReadWouldAnswer(t *testing.T) {
	for _, x := range []struct {
		pattern string
		want    api.Errno
		l       []line.Field
	}{
		{"t", api.ErrForm, []line.Field{text("")}}, {"h", api.ErrForm, []line.Field{text("")}}, {"t", api.ErrForm, []line.Field{text(" ")}}, {"h", api.ErrForm, []line.Field{text("a\n")}}, {"t", api.ErrForm, []line.Field{text("\x00")}},
		{"tt", api.ErrForm, []line.Field{text("a"), text("")}}, {"tt", api.ErrForm, []line.Field{text(""), text("a")}}, {"tn", api.ErrForm, []line.Field{text(""), number(7)}},
		{"s", api.ErrRange, []line.Field{number(1 << 31)}}, {"s", api.ErrRange, []line.Field{number(most)}}, {"ns", api.ErrRange, []line.Field{number(most), number(1 << 31)}}, {"sn", api.ErrRange, []line.Field{number(1 << 31), number(most)}},
		{"st", api.ErrRange, []line.Field{number(1 << 31), text("A")}}, {"ts", api.ErrForm, []line.Field{text("A"), number(1 << 31)}},
		{"sh", api.ErrRange, []line.Field{number(1 << 31), text(".")}}, {"hs", api.ErrForm, []line.Field{text("."), number(1 << 31)}},
		{"sts", api.ErrRange, []line.Field{number(1 << 31), text("\xff"), number(1)}}, {"sts", api.ErrForm, []line.Field{number(1), text("\xff"), number(1 << 31)}},
		// Of a text that is no word at all there is no such line, which comes ahead of the words.
		{"st", api.ErrForm, []line.Field{number(1 << 31), text("")}}, {"st", api.ErrForm, []line.Field{number(1 << 31), text("a b")}}, {"sh", api.ErrForm, []line.Field{number(1 << 31), text("a\n")}}, {"sh", api.ErrForm, []line.Field{number(1 << 31), text(" ")}},
	} {
		holdNoWrite(t, "x", x.pattern, x.want, x.l...)
	}
}

// Write is held against a line that is put together here, and what Read is to answer of it.
func TestFieldsAsThePatternsTell(t *testing.T) {
	next := noise()
	texts := append([]string{"", " ", "a b", "a\n", "\x00", "a b c"}, words...)
	found := 0
	for range 40000 {
		pattern, word := someText(next, "thnbsthnbsq", 3), []string{"x", "x", "x", "", "x y", "x\n"}[next()%6]
		l, written := []line.Field{}, word
		for _, sign := range pattern {
			f := line.Field{Text: texts[next()%uint64(len(texts))], N: next() >> (next() % 64), Data: []byte(someText(next, "\x00\x0f\xf0-", 3))}
			l = append(l, f)
			switch sign {
			case 't', 'h':
				written += " " + f.Text
			case 'n', 's':
				written += " " + new(big.Int).SetUint64(f.N).String()
			default:
				written += " " + digits(f.Data)
			}
		}
		if _, e := fields(written, word, pattern); e != api.OK {
			holdNoWrite(t, word, pattern, e, l...)
		} else {
			holdWrite(t, word, pattern, written, l...)
			found++
		}
	}
	if found < 1000 {
		t.Error("lines that were written:", found)
	}
}

// P8.2

func TestWord(t *testing.T) {
	for text, want := range map[string]string{
		"": "", "x": "x", "cap acme 100": "cap", "commit": "commit", "a b c d": "a", "1 2": "1", "- -": "-", "#a b": "#a", "Cap": "Cap", "é ö": "é", "\xff a": "\xff", "a\xffb c": "a\xffb", "\x7f": "\x7f", "\u00a0 b": "\u00a0", "a\u00a0b": "a\u00a0b",
		" ": "", "  ": "", " a": "", "a ": "", "a  b": "", "a b ": "", "a b  c": "", " a b": "", "a\n": "", "\na": "", "a\tb": "", "a b\n": "", "a \x00": "", "a b c\x1f": "", "\x00": "", "cap acme 100 ": "", "cap acme\x1f100": "",
		"cap 18446744073709551616": "cap", "what is this": "what",
	} {
		if got := line.Word(text); got != want {
			t.Errorf("%q: %q, not %q", text, got, want)
		}
	}
	long := strings.Repeat("x", 1<<16)
	if line.Word(long) != long || line.Word(long+" "+long) != long || line.Word(long+" "+long+" ") != "" || line.Word(strings.Repeat("ab ", 1<<16)+"c") != "ab" || line.Word(strings.Repeat("ab ", 1<<16)) != "" {
		t.Error("a long line's first word is another one")
	}
}

// Each byte stands in the first word, in one behind it, and alone.
func TestEachByteOfAFirstWord(t *testing.T) {
	for x := range 256 {
		s := string([]byte{byte(x)})
		for _, text := range []string{s, s + "a", "a" + s, "a" + s + "b", "a" + s + "b c", s + " b", "a b" + s, "a " + s, "a b " + s + " c", s + s} {
			want := ""
			if lines.MatchString(text) {
				want, _, _ = strings.Cut(text, " ")
			}
			if got := line.Word(text); got != want {
				t.Errorf("%q: %q, not %q", text, got, want)
			}
		}
	}
}

// The word of a line that is none is empty, and no line's first word.
func TestALineIsReadByItsWord(t *testing.T) {
	for _, text := range []string{"x", "cap", "-", "\xff", "x.y"} {
		holdRead(t, text, line.Word(text), "")
		holdRead(t, text+" 7", line.Word(text+" 7"), "n", number(7))
	}
	for _, text := range []string{"", " ", "a ", " 7", "\n", "7\n"} {
		holdNoRead(t, text, line.Word(text), "", api.ErrForm)
		holdNoRead(t, text, line.Word(text), "n", api.ErrForm)
	}
}

// P8.3

// someField fits a sign; now and then it is at an edge.
func someField(next func() uint64, sign byte) line.Field {
	switch sign {
	case 't':
		return text("a" + someText(next, "az09-", api.MaxName-1))
	case 'h':
		return text("0" + someText(next, "az09-.:", api.MaxTarget-1))
	case 'n':
		return number([]uint64{0, 1, most, most - 1, next(), next() >> (next() % 64)}[next()%6])
	case 's':
		return number([]uint64{0, 1, mostSmall, mostSmall - 1, next() >> 33, next() >> (33 + next()%31)}[next()%6])
	}
	return data([]byte(someText(next, "\x00\x01\x7f\x80\xff- a", 20))...)
}

func TestFieldsComeBack(t *testing.T) {
	next := noise()
	for range 20000 {
		pattern := someText(next, "thnbs", 9)
		word := "w" + someText(next, "aZ0-!~\x7f\x80\xff", 5)
		l := []line.Field{}
		for i := range len(pattern) {
			l = append(l, someField(next, pattern[i]))
		}
		text, e := line.Write(word, pattern, l)
		if e != api.OK {
			t.Fatalf("%q, %q, %v: error %d", word, pattern, l, e)
		}
		holdRead(t, text, word, pattern, l...)
		if line.Word(text) != word {
			t.Errorf("%q: %q, not %q", text, line.Word(text), word)
		}
	}
}

func TestLinesComeBack(t *testing.T) {
	next := noise()
	found := 0
	for range 100000 {
		text := "x" + someText(next, "aa1100  -:", 12)
		pattern := someText(next, "thnbs", 3)
		l, e := line.Read(text, "x", pattern)
		if e == api.OK {
			holdWrite(t, "x", pattern, text, l...)
			found++
		}
	}
	if found < 1000 {
		t.Error("lines that were read:", found)
	}
}

// Rules 3 and 4: what is handed in, what is answered

func TestNothingHandedInIsChangedOrKept(t *testing.T) {
	room := []line.Field{{Text: "acme", N: 1, Data: []byte{1, 2, 0xee, 0xee}[:2]}, {Text: "b", N: 2, Data: []byte{3}}, {Text: "behind", N: 3}, {Text: "behind", N: 4}}
	text, e := line.Write("x", "tb", room[:2])
	if text != "x acme 03" || e != api.OK {
		t.Fatal(text, e)
	}
	if !bytes.Equal(room[0].Data[:4], []byte{1, 2, 0xee, 0xee}) || room[0].Text != "acme" || room[0].N != 1 || room[1].Text != "b" || room[1].N != 2 || room[1].Data[0] != 3 || room[2].Text != "behind" || room[3].N != 4 {
		t.Error("what was handed in is changed:", room)
	}
	room[1].Data[0] = 9
	if text != "x acme 03" {
		t.Error("what was handed in is kept:", text)
	}
}

func TestAnswersAreNewMemory(t *testing.T) {
	one, _ := line.Read("x 0102 0304 a", "x", "bbt")
	other, _ := line.Read("x 0102 0304 a", "x", "bbt")
	one[0].Data[0] = 9
	_ = append(one[0].Data, 9, 9, 9)
	_ = append(one[1].Data[:1], 9)
	one[2].Text = "z"
	if !same(one[1], data(3, 9)) || !slices.EqualFunc(other, []line.Field{data(1, 2), data(3, 4), text("a")}, same) {
		t.Error("two answers, or two lists of one, share memory:", one, other)
	}
}
