package real_test

import (
	"math"
	"math/big"
	"slices"
	"testing"

	"taximeter/real"
)

// The bits at the edges of the classes.
const (
	sign        = uint64(1) << 63
	least       = uint64(1)                  // the smallest number above 0
	belowNormal = uint64(0x000fffffffffffff) // the greatest one below the smallest normal one
	normal      = uint64(0x0010000000000000)
	one         = uint64(0x3ff0000000000000)
	greatest    = uint64(0x7fefffffffffffff)
	infinite    = uint64(0x7ff0000000000000)
)

// none are bits of what is not a number: the first and the last ones, quiet and signalling, of both signs.
var none = []uint64{
	0x7ff8000000000000, 0x7ff8000000000001, 0x7ff0000000000001, 0x7ff4000000000000, 0x7ff7ffffffffffff, 0x7fffffffffffffff,
	0xfff8000000000000, 0xfff8000000000001, 0xfff0000000000001, 0xfff4000000000000, 0xfff7ffffffffffff, 0xffffffffffffffff,
}

// ascending are bits of numbers, each ahead of all that follow; what is not a number is behind the last one.
var ascending = []uint64{
	sign | infinite,
	sign | greatest, sign | greatest - 1, 0xc059000000000000, sign | one + 1, sign | one, sign | one - 1, 0xbfe0000000000000,
	sign | normal + 1, sign | normal, sign | belowNormal, sign | belowNormal - 1, sign | 2, sign | least,
	sign,
	0,
	least, 2, belowNormal - 1, belowNormal, normal, normal + 1,
	0x3fe0000000000000, one - 1, one, one + 1, 0x4059000000000000, greatest - 1, greatest,
	infinite,
}

func bitsOf(f float64) uint64 {
	return math.Float64bits(f)
}

// noise makes numbers of all bits, ever the same ones.
func noise() func() uint64 {
	x := uint64(88172645463325252)
	return func() uint64 {
		x ^= x << 13
		x ^= x >> 7
		x ^= x << 17
		return x * 2685821657736338717
	}
}

// samples are bits of each exponent there is, of both signs, with several places each.
func samples() []uint64 {
	next := noise()
	var l []uint64
	for e := range uint64(2048) {
		for _, m := range []uint64{0, 1, 1 << 51, 1<<52 - 1, next() >> 12} {
			l = append(l, e<<52|m, sign|e<<52|m)
		}
	}
	return l
}

// another tells a class by the bits alone.
func another(x uint64) int {
	if x&^sign > infinite {
		return real.NotANumber
	}
	if x < sign {
		return above(x, real.Zero, real.Plus, real.Infinite)
	}
	return above(x-sign, real.MinusZero, real.Minus, real.MinusInfinite)
}

func above(x uint64, zero, between, endless int) int {
	switch x {
	case 0:
		return zero
	case infinite:
		return endless
	}
	return between
}

// exactly is what a number is, without any rounding.
func exactly(x uint64) *big.Rat {
	return new(big.Rat).SetFloat64(math.Float64frombits(x))
}

// P5.1: Class

func TestTheClassesNumbers(t *testing.T) {
	got := []int{real.NotANumber, real.MinusInfinite, real.Minus, real.MinusZero, real.Zero, real.Plus, real.Infinite}
	if !slices.Equal(got, []int{0, 1, 2, 3, 4, 5, 6}) {
		t.Error(got)
	}
}

func TestClass(t *testing.T) {
	for _, x := range []struct {
		class int
		of    []uint64
	}{
		{0, none},
		{1, []uint64{sign | infinite, bitsOf(math.Inf(-1))}},
		{2, []uint64{bitsOf(-1), bitsOf(-0.5), bitsOf(-1e300), sign | greatest, sign | normal, sign | belowNormal, sign | least}},
		{3, []uint64{sign, bitsOf(math.Copysign(0, -1))}},
		{4, []uint64{0, bitsOf(0)}},
		{5, []uint64{bitsOf(1), bitsOf(0.5), bitsOf(1e300), greatest, normal, belowNormal, least}},
		{6, []uint64{infinite, bitsOf(math.Inf(1))}},
	} {
		for _, b := range x.of {
			if got := real.Class(b); got != x.class {
				t.Errorf("%016x: %d, not %d", b, got, x.class)
			}
		}
	}
}

func TestClassOfEachExponent(t *testing.T) {
	for _, x := range samples() {
		if got := real.Class(x); got != another(x) {
			t.Errorf("%016x: %d, not %d", x, got, another(x))
		}
	}
}

// P5.1: Less, Key

// holdOrder holds both calls against what is known of the order of two.
func holdOrder(t *testing.T, a, b uint64, ahead bool) {
	t.Helper()
	if got := real.Less(a, b); got != ahead {
		t.Errorf("%016x is ahead of %016x: %t", a, b, got)
	}
	if got := real.Key(a) < real.Key(b); got != ahead {
		t.Errorf("the key %x of %016x is less than %x of %016x: %t", real.Key(a), a, real.Key(b), b, got)
	}
}

func TestTheOrderOfTwo(t *testing.T) {
	for i, a := range ascending {
		for k, b := range ascending {
			holdOrder(t, a, b, i < k)
		}
	}
}

func TestTheOrderOfWhatIsNotANumber(t *testing.T) {
	for _, a := range none {
		for _, b := range ascending {
			holdOrder(t, a, b, false)
			holdOrder(t, b, a, true)
		}
		for _, b := range none {
			holdOrder(t, a, b, false)
			if real.Key(a) != real.Key(b) {
				t.Errorf("%016x and %016x have two keys", a, b)
			}
		}
	}
}

// The order's words, done another way: by classes first, then by what is smaller.
func TestTheOrderIsByClassesFirst(t *testing.T) {
	next := noise()
	all := samples()
	for i, a := range all {
		others := []uint64{a, a ^ sign, a + 1, a - 1, all[(i+1)%len(all)], all[next()%uint64(len(all))], next()}
		for _, b := range others {
			ca, cb := another(a), another(b)
			ahead := (ca+6)%7 < (cb+6)%7
			if ca == cb {
				ahead = math.Float64frombits(a) < math.Float64frombits(b)
			}
			holdOrder(t, a, b, ahead)
		}
	}
}

func TestTheKeyOfMinusZeroIsLess(t *testing.T) {
	if real.Key(sign) >= real.Key(0) || !real.Less(sign, 0) || real.Less(0, sign) {
		t.Error("MinusZero is not ahead of Zero")
	}
}

// P5.1: Canon

func TestCanon(t *testing.T) {
	for _, x := range none {
		if got := real.Canon(x); got != 0x7ff8000000000000 {
			t.Errorf("%016x: %016x", x, got)
		}
	}
	if got := real.Canon(sign); got != 0 {
		t.Errorf("MinusZero: %016x", got)
	}
	for _, x := range ascending {
		if got := real.Canon(x); x != sign && got != x {
			t.Errorf("%016x: %016x", x, got)
		}
	}
}

func TestCanonOfEachExponent(t *testing.T) {
	for _, x := range samples() {
		want := x
		switch another(x) {
		case real.NotANumber:
			want = 0x7ff8000000000000
		case real.MinusZero:
			want = 0
		}
		if got := real.Canon(x); got != want || real.Canon(got) != got {
			t.Errorf("%016x: %016x, not %016x", x, got, want)
		}
	}
}

// P5.2: Parts

func TestParts(t *testing.T) {
	for _, x := range []struct {
		of uint64
		m  uint64
		e  int
	}{
		{bitsOf(0), 0, 0},
		{sign, 0, 0},
		{bitsOf(1), 1, 0},
		{bitsOf(2), 1, 1},
		{bitsOf(3), 3, 0},
		{bitsOf(10), 5, 1},
		{bitsOf(12), 3, 2},
		{bitsOf(255), 255, 0},
		{bitsOf(256), 1, 8},
		{bitsOf(0.5), 1, -1},
		{bitsOf(0.25), 1, -2},
		{bitsOf(0.75), 3, -2},
		{bitsOf(1.5), 3, -1},
		{bitsOf(2.5), 5, -1},
		{bitsOf(0.1), 3602879701896397, -55},
		{bitsOf(1<<53 - 1), 1<<53 - 1, 0},
		{bitsOf(1 << 53), 1, 53},
		{bitsOf(1 << 63), 1, 63},
		{bitsOf(1<<64 - 1<<11), 1<<53 - 1, 11},
		{bitsOf(0x1p1023), 1, 1023},
		{one - 1, 1<<53 - 1, -53},
		{one + 1, 1<<52 + 1, -52},
		{greatest, 1<<53 - 1, 971},
		{greatest - 1, 1<<52 - 1, 972},
		{normal, 1, -1022},
		{normal + 1, 1<<52 + 1, -1074},
		{belowNormal, 1<<52 - 1, -1074},
		{1 << 51, 1, -1023},
		{least, 1, -1074},
		{2, 1, -1073},
		{3, 3, -1074},
		{6, 3, -1073},
	} {
		if m, e, is := real.Parts(x.of); m != x.m || e != x.e || !is {
			t.Errorf("%016x: %d, %d, %t, not %d, %d", x.of, m, e, is, x.m, x.e)
		}
	}
}

func TestPartsOfWhatHasNone(t *testing.T) {
	for _, l := range [][]uint64{none, {
		infinite, sign | infinite, bitsOf(-1), bitsOf(-0.5), bitsOf(-12),
		sign | greatest, sign | normal, sign | belowNormal, sign | least,
	}} {
		for _, x := range l {
			if m, e, is := real.Parts(x); m != 0 || e != 0 || is {
				t.Errorf("%016x: %d, %d, %t", x, m, e, is)
			}
		}
	}
}

// timesTwo is m times 2 to the power of e, without any rounding.
func timesTwo(m uint64, e int) *big.Rat {
	r := new(big.Rat).SetInt(new(big.Int).SetUint64(m))
	power := new(big.Rat).SetInt(new(big.Int).Lsh(big.NewInt(1), uint(max(e, -e))))
	if e < 0 {
		return r.Quo(r, power)
	}
	return r.Mul(r, power)
}

func TestPartsAreTheNumber(t *testing.T) {
	for _, x := range samples() {
		m, e, is := real.Parts(x)
		switch another(x) {
		case real.Plus:
			if !is || m%2 == 0 || m >= 1<<53 || timesTwo(m, e).Cmp(exactly(x)) != 0 {
				t.Errorf("%016x: %d, %d, %t", x, m, e, is)
			}
		case real.MinusZero, real.Zero:
			if !is || m != 0 || e != 0 {
				t.Errorf("%016x: %d, %d, %t", x, m, e, is)
			}
		default:
			if is || m != 0 || e != 0 {
				t.Errorf("%016x: %d, %d, %t", x, m, e, is)
			}
		}
	}
}

// P5.2: Pick

// many are numbers of places: few, a great many, and those at which a product goes round a word, or is rounded as a floating one.
var many = []int{
	1, 2, 3, 4, 5, 7, 10, 16, 49, 100, 1000, 1<<11 - 1, 1 << 11, 1<<11 + 1, 1<<31 - 1, 1 << 32,
	1<<53 - 1, 1 << 53, 1<<53 + 1, 1 << 62, 1<<62 + 1, math.MaxInt - 1, math.MaxInt,
}

// fractions are above 0 and below 1, in order.
func fractions() []uint64 {
	next := noise()
	l := []uint64{
		least, 2, belowNormal, normal, bitsOf(0x1p-54) - 1, bitsOf(0x1p-54), bitsOf(0x1p-53) - 1, bitsOf(0x1p-53), bitsOf(0x1p-53) + 1, bitsOf(0x1p-52),
		bitsOf(0x1p-53 + 0x1p-60), bitsOf(0.001), bitsOf(0.1), bitsOf(0.2), bitsOf(0.3), bitsOf(0.49), bitsOf(0.7), bitsOf(0.9), bitsOf(0.999),
		bitsOf(0.5) - 1, bitsOf(0.5), bitsOf(0.5) + 1, bitsOf(0.25) - 1, bitsOf(0.25), one - 2, one - 1,
	}
	for n := range 50 {
		x := bitsOf(float64(n+1) / 51)
		l = append(l, x-1, x, x+1)
	}
	for range 200 {
		l = append(l, next()%one, bitsOf(float64(next()>>11)*0x1p-53))
	}
	l = slices.DeleteFunc(l, func(x uint64) bool { return x == 0 || x >= one })
	slices.Sort(l)
	return slices.Compact(l)
}

// picked is the place of a fraction, done with numbers of any length.
func picked(x uint64, n int) int {
	scaled := new(big.Rat).Mul(exactly(x), timesTwo(1, 53))
	first := new(big.Int).Quo(scaled.Num(), scaled.Denom())
	place := first.Mul(first, big.NewInt(int64(n)))
	return int(place.Rsh(place, 53).Int64())
}

func TestPick(t *testing.T) {
	for _, x := range []struct {
		of   uint64
		n    int
		want int
	}{
		{bitsOf(0.5), 3, 1},
		{bitsOf(0.5), 2, 1},
		{bitsOf(0.5) - 1, 2, 0},
		{bitsOf(0.5), 1, 0},
		{bitsOf(0.25), 4, 1},
		{bitsOf(0.75), 4, 3},
		{bitsOf(0.999), 4, 3},
		{bitsOf(0.1), 10, 0},
		{bitsOf(0.1) + 16, 10, 1},
		{bitsOf(0.3), 10, 2},
		{bitsOf(0.7), 10, 6},
		{bitsOf(0.9), 10, 9},
		{bitsOf(0.1), 1 << 53, 900719925474099},
		{bitsOf(0.5), math.MaxInt, 1<<62 - 1},
		{one - 1, 1, 0},
		{one - 1, 3, 2},
		{one - 1, 1 << 53, 1<<53 - 1},
		{one - 1, 1<<53 + 1, 1<<53 - 1},
		{one - 1, 1 << 62, 1<<62 - 1<<9},
		{one - 1, math.MaxInt, math.MaxInt - 1<<10},
		{least, math.MaxInt, 0},
		{normal, math.MaxInt, 0},
		{bitsOf(0x1p-53), 1 << 53, 1},
		{bitsOf(0x1p-53), 1<<53 - 1, 0},
		{bitsOf(0x1p-53), 1 << 62, 1 << 9},
		{bitsOf(0x1p-53), math.MaxInt, 1<<10 - 1},
	} {
		if got := real.Pick(x.of, x.n); got != x.want {
			t.Errorf("%016x of %d: %d, not %d", x.of, x.n, got, x.want)
		}
	}
}

// Places behind the 53rd are cut off, also where they would count for so many.
func TestPickCutsPlacesOff(t *testing.T) {
	for _, x := range []struct {
		of, as uint64
	}{
		{bitsOf(0x1p-54), 0},
		{bitsOf(0x1p-53) - 1, 0},
		{bitsOf(0x1p-53 + 0x1p-54), bitsOf(0x1p-53)},
		{bitsOf(0x1p-53 + 0x1p-60), bitsOf(0x1p-53)},
		{bitsOf(0x1p-52) - 1, bitsOf(0x1p-53)},
		{bitsOf(0.25) + 1, bitsOf(0.25)},
		{bitsOf(0.25) - 1, bitsOf(0.25 - 0x1p-53)},
		{bitsOf(0.1), bitsOf(900719925474099 * 0x1p-53)},
	} {
		for _, n := range many {
			if got, want := real.Pick(x.of, n), real.Pick(x.as, n); got != want {
				t.Errorf("%016x of %d: %d, not %d, as %016x", x.of, n, got, want, x.as)
			}
		}
	}
}

// For some of these a product of floating numbers would be rounded up to 1.
func TestPickRoundsDown(t *testing.T) {
	for _, n := range []int{3, 5, 7, 10, 100} {
		x := bitsOf(1 / float64(n))
		for ; exactly(x).Cmp(big.NewRat(1, int64(n))) >= 0; x-- {
		}
		if got := real.Pick(x, n); got != 0 {
			t.Errorf("just below 1/%d: %d", n, got)
		}
		if got := real.Pick(bitsOf(1/float64(n)+0x1p-53), n); got != 1 {
			t.Errorf("just above 1/%d: %d", n, got)
		}
	}
}

func TestPickOfEachFraction(t *testing.T) {
	for _, x := range fractions() {
		for _, n := range many {
			if got, want := real.Pick(x, n), picked(x, n); got != want || got < 0 || got >= n {
				t.Errorf("%016x of %d: %d, not %d", x, n, got, want)
			}
		}
	}
}

func TestPickOfWhatIsNotAbove0(t *testing.T) {
	l := append([]uint64{0, sign, sign | least, sign | normal, bitsOf(-0.5), bitsOf(-1), bitsOf(-7), sign | greatest, sign | infinite}, none...)
	for _, x := range l {
		for _, n := range many {
			if got := real.Pick(x, n); got != 0 {
				t.Errorf("%016x of %d: %d", x, n, got)
			}
		}
	}
}

func TestPickOf1OrMore(t *testing.T) {
	for _, x := range []uint64{one, one + 1, bitsOf(1.5), bitsOf(2), bitsOf(1000), bitsOf(0x1p11), bitsOf(0x1p53), bitsOf(0x1p64), greatest, infinite} {
		for _, n := range many {
			if got := real.Pick(x, n); got != n-1 {
				t.Errorf("%016x of %d: %d", x, n, got)
			}
		}
	}
}

// Where there is no place none is picked, of whatever number.
func TestPickOfNoPlaces(t *testing.T) {
	for _, l := range [][]uint64{none, ascending, fractions()} {
		for _, x := range l {
			for _, n := range []int{0, -1, -2, -1 << 32, math.MinInt + 1, math.MinInt} {
				if got := real.Pick(x, n); got != -1 {
					t.Errorf("%016x of %d: %d", x, n, got)
				}
			}
		}
	}
}

func TestPickOfEachExponent(t *testing.T) {
	for _, x := range samples() {
		for _, n := range []int{1, 3, 1 << 53, math.MaxInt} {
			want := 0
			if another(x) >= real.Plus {
				want = n - 1
				if x < one {
					want = picked(x, n)
				}
			}
			if got := real.Pick(x, n); got != want {
				t.Errorf("%016x of %d: %d, not %d", x, n, got, want)
			}
		}
	}
}

// P5.3

// holdAhead: just one of two is ahead, but of two that are the same.
func holdAhead(t *testing.T, a, b uint64) {
	t.Helper()
	same := a == b || another(a) == real.NotANumber && another(b) == real.NotANumber
	if real.Less(a, b) && real.Less(b, a) {
		t.Errorf("%016x and %016x: both are ahead", a, b)
	}
	if (real.Less(a, b) || real.Less(b, a)) == same {
		t.Errorf("%016x and %016x: one is ahead: %t", a, b, !same)
	}
	if (real.Key(a) == real.Key(b)) != same {
		t.Errorf("%016x and %016x: the keys are %x and %x", a, b, real.Key(a), real.Key(b))
	}
}

func TestJustOneOfTwoIsAhead(t *testing.T) {
	edges := slices.Concat(none, ascending)
	for _, a := range edges {
		for _, b := range edges {
			holdAhead(t, a, b)
		}
	}
	next := noise()
	for _, a := range samples() {
		for _, b := range []uint64{a, a + 1, a - 1, a ^ sign, ^a, next()} {
			holdAhead(t, a, b)
			holdAhead(t, b, a)
		}
	}
}

func TestAGreaterFractionNeverPicksLess(t *testing.T) {
	all := slices.Concat([]uint64{sign | infinite, bitsOf(-1), sign | least, sign, 0}, fractions(), []uint64{one, one + 1, bitsOf(2), greatest, infinite})
	for _, n := range many {
		before := 0
		for _, x := range all {
			place := real.Pick(x, n)
			if place < before || place >= n {
				t.Errorf("%016x of %d: %d, behind %d", x, n, place, before)
			}
			before = place
		}
		if before != n-1 {
			t.Errorf("of %d the last one is %d", n, before)
		}
	}
}
