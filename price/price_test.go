package price_test

import (
	"math"
	"math/big"
	"slices"
	"testing"

	"taximeter/api"
	"taximeter/price"
)

// The bits at the edges of what a price may be.
const (
	sign        = uint64(1) << 63
	least       = uint64(1)                  // the smallest price above 0
	belowNormal = uint64(0x000fffffffffffff) // the greatest one below the smallest normal number
	normal      = uint64(0x0010000000000000)
	one         = uint64(0x3ff0000000000000)
	greatest    = uint64(0x7fefffffffffffff)
	infinite    = uint64(0x7ff0000000000000)
)

const most = uint64(math.MaxUint64)

// none are bits of what is not a number: the first and the last ones, quiet and signalling, of both signs.
var none = []uint64{
	0x7ff8000000000000, 0x7ff8000000000001, 0x7ff0000000000001, 0x7ff4000000000000, 0x7ff7ffffffffffff, 0x7fffffffffffffff,
	0xfff8000000000000, 0xfff8000000000001, 0xfff0000000000001, 0xfff4000000000000, 0xfff7ffffffffffff, 0xffffffffffffffff,
}

// refused are bits of numbers that are no price: those below 0, and infinite ones.
var refused = []uint64{
	infinite, sign | infinite,
	sign | least, sign | 2, sign | belowNormal, sign | normal, sign | normal + 1, sign | greatest - 1, sign | greatest,
	sign | one - 1, sign | one, sign | one + 1, bitsOf(-0.25), bitsOf(-0.5), bitsOf(-3), bitsOf(-1e300),
}

// someCounts are numbers of bytes, in order: few, a great many, and those around each power of 2.
var someCounts = counts()

// somePrices are bits of prices, in order but for MinusZero: those at the edges, whole ones, fractions, and some of each exponent.
var somePrices = prices()

func bitsOf(f float64) uint64 {
	return math.Float64bits(f)
}

// noise makes numbers of all bits, ever the same ones.
func noise() func() uint64 {
	x := uint64(88172645463325252)
	return func() uint64 {
		x ^= x << 13
		x ^= x >> 7
		x ^= x << 17
		return x * 2685821657736338717
	}
}

func counts() []uint64 {
	next := noise()
	l := []uint64{0, 1, 2, 3, 5, 7, 10, 24, 50, 100, 999, 1000, 1001, most / 7, most / 5, most / 3, most/3 + 1, most/2 + 2, most - 2, most - 1, most}
	for i := range 64 {
		power := uint64(1) << i
		l = append(l, power-1, power, power+1, next()>>i)
	}
	slices.Sort(l)
	return slices.Compact(l)
}

func prices() []uint64 {
	next := noise()
	l := []uint64{0, least, 2, 3, belowNormal - 1, belowNormal, normal, normal + 1, one - 1, one, one + 1, greatest - 1, greatest}
	for _, f := range []float64{0.01, 0.1, 0.25, 0.3, 0.5, 0.7, 0.75, 0.9, 1.1, 1.5, 2, 2.5, 3, 7, 10, 15.5, 255, 1000, 1e18, 1e19, 0x1p63, 0x1p64} {
		l = append(l, bitsOf(f)-1, bitsOf(f), bitsOf(f)+1)
	}
	for e := range uint64(2047) {
		l = append(l, e<<52, e<<52|1<<51, e<<52|(1<<52-1), e<<52|next()>>12)
	}
	slices.Sort(l)
	return append([]uint64{sign}, slices.Compact(l)...)
}

// whole is a number of any length, of one of a word.
func whole(n uint64) *big.Int {
	return new(big.Int).SetUint64(n)
}

// atMost is n, 2^64 - 1 at most.
func atMost(n *big.Int) uint64 {
	if n.IsUint64() {
		return n.Uint64()
	}
	return most
}

// comesTo is what n bytes come to, done with fractions of any length.
func comesTo(n, bits uint64) uint64 {
	exactly := new(big.Rat).SetFloat64(math.Float64frombits(bits))
	exactly.Mul(exactly, new(big.Rat).SetInt(whole(n)))
	return atMost(new(big.Int).Quo(exactly.Num(), exactly.Denom()))
}

func holdDue(t *testing.T, n, bits, want uint64) {
	t.Helper()
	if got, err := price.Due(n, bits); got != want || err != api.OK {
		t.Errorf("%d bytes at %016x (%g): %d, error %d, not %d", n, bits, math.Float64frombits(bits), got, err, want)
	}
}

func holdCheck(t *testing.T, bits, want uint64) {
	t.Helper()
	if got, err := price.Check(bits); got != want || err != api.OK {
		t.Errorf("%016x: %016x, error %d, not %016x", bits, got, err, want)
	}
}

// holdRefused asks both calls, Due for no bytes, for few and for a great many.
func holdRefused(t *testing.T, bits uint64) {
	t.Helper()
	if got, err := price.Check(bits); got != 0 || err != api.ErrPrice {
		t.Errorf("%016x: %016x, error %d", bits, got, err)
	}
	for _, n := range []uint64{0, 1, 10, 1 << 53, most - 1, most} {
		if got, err := price.Due(n, bits); got != 0 || err != api.ErrPrice {
			t.Errorf("%d bytes at %016x: %d, error %d", n, bits, got, err)
		}
	}
}

// P6.1: Check

func TestCheck(t *testing.T) {
	for _, f := range []float64{0, 1, 2, 3, 10, 1e9, 0x1p64, 1e300, 0.5, 0.25, 0.1, 1e-9, 1e-300, math.MaxFloat64, math.SmallestNonzeroFloat64} {
		holdCheck(t, bitsOf(f), bitsOf(f))
	}
	for _, bits := range []uint64{0, least, 2, belowNormal - 1, belowNormal, normal, normal + 1, one - 1, one, one + 1, greatest - 1, greatest} {
		holdCheck(t, bits, bits)
	}
}

func TestCheckOfMinusZero(t *testing.T) {
	holdCheck(t, sign, 0)
	holdCheck(t, bitsOf(math.Copysign(0, -1)), 0)
}

func TestCheckOfEachPrice(t *testing.T) {
	for _, bits := range somePrices {
		want := bits
		if bits == sign {
			want = 0
		}
		holdCheck(t, bits, want)
	}
}

// P6.1: Due

func TestDue(t *testing.T) {
	for _, x := range []struct {
		n    uint64
		at   float64
		want uint64
	}{
		{10, 0.25, 2},
		{1, 1, 1}, {7, 1, 7}, {50, 2, 100}, {24, 3, 72}, {1000, 10, 10000}, {1 << 32, 1000, 1000 << 32}, {1 << 53, 3, 3 << 53}, {1<<53 + 1, 1, 1<<53 + 1},
		{1, 0.5, 0}, {2, 0.5, 1}, {3, 0.5, 1}, {4, 0.5, 2}, {1, 1.5, 1}, {3, 1.5, 4}, {3, 2.5, 7}, {8, 0.75, 6}, {9, 0.75, 6},
		{1000, 0.1, 100}, {1 << 63, 0.5, 1 << 62}, {1<<63 + 1, 0.5, 1 << 62}, {most, 0.5, most / 2}, {most, 0.25, most / 4},
		{7, 1e-300, 0}, {most, 1e-300, 0}, {1, 1e18, 1e18}, {18, 1e18, 18e18},
	} {
		holdDue(t, x.n, bitsOf(x.at), x.want)
	}
}

// Of some of these a product of floating numbers would be rounded to the whole number.
func TestDueAroundAWholeNumber(t *testing.T) {
	for _, x := range []struct {
		n, bits, want uint64
	}{
		{10, bitsOf(0.1) - 1, 0}, {10, bitsOf(0.1), 1}, {10, bitsOf(0.1) + 1, 1},
		{10, bitsOf(0.3), 2}, {10, bitsOf(0.3) + 1, 3},
		{10, bitsOf(0.7), 6}, {10, bitsOf(0.7) + 1, 7},
		{3, bitsOf(1.0 / 3), 0}, {3, bitsOf(1.0/3) + 1, 1},
		{100, bitsOf(1.1), 110}, {100, bitsOf(1.1) - 1, 109},
		{4, bitsOf(0.25) - 1, 0}, {4, bitsOf(0.25), 1}, {4, bitsOf(0.25) + 1, 1},
		{1, one - 1, 0}, {1, one, 1}, {1, one + 1, 1},
		{1 << 52, one - 1, 1<<52 - 1}, {1 << 53, one - 1, 1<<53 - 1}, {1<<53 + 1, one - 1, 1<<53 - 1}, {1<<53 + 2, one - 1, 1 << 53},
		{1<<52 - 1, one + 1, 1<<52 - 1}, {1 << 52, one + 1, 1<<52 + 1},
		{most, bitsOf(0x1p-63), 1}, {1 << 63, bitsOf(0x1p-63), 1}, {1<<63 - 1, bitsOf(0x1p-63), 0},
		{most, bitsOf(0x1p-63) - 1, 1}, {1 << 63, bitsOf(0x1p-63) - 1, 0},
		{most, bitsOf(0x1p-64), 0}, {most, bitsOf(0x1p-64) + 1, 1}, {most - 1<<12, bitsOf(0x1p-64) + 1, 0},
	} {
		holdDue(t, x.n, x.bits, x.want)
	}
}

func TestDueAroundTheGreatestNumber(t *testing.T) {
	const third, at31 = most / 3, 1190112520884487201 // 31 times at31 is 2^65 - 1
	for _, x := range []struct {
		n, bits, want uint64
	}{
		{most - 1, one, most - 1}, {most, one, most},
		{1<<63 - 1, bitsOf(2), most - 1}, {1 << 63, bitsOf(2), most},
		{third - 1, bitsOf(3), most - 3}, {third, bitsOf(3), most}, {third + 1, bitsOf(3), most},
		{most / 5, bitsOf(5), most}, {most/5 - 1, bitsOf(5), most - 5},
		{2 * third, bitsOf(1.5), most}, {2*third - 1, bitsOf(1.5), most - 2}, {2*third + 1, bitsOf(1.5), most},
		{at31, bitsOf(15.5), most}, {at31 - 1, bitsOf(15.5), most - 15}, {at31 + 1, bitsOf(15.5), most},
		{most, one - 1, most - 1<<11}, {most, one + 1, most}, {most - 1<<12, one + 1, most - 1}, {most - 1<<12 + 1, one + 1, most},
		{1, bitsOf(0x1p63), 1 << 63}, {2, bitsOf(0x1p63), most}, {1, bitsOf(0x1p64) - 1, most - (1<<11 - 1)}, {1, bitsOf(0x1p64), most}, {1, bitsOf(0x1p64) + 1, most},
		{1, bitsOf(1e300), most}, {most, bitsOf(1e300), most}, {most, bitsOf(2), most}, {1 << 32, bitsOf(0x1p32), most},
		{1, greatest, most}, {1 << 53, greatest, most}, {most, greatest, most}, {1 << 63, bitsOf(0x1p1023), most},
	} {
		holdDue(t, x.n, x.bits, x.want)
	}
}

func TestDueAtAPriceOf0(t *testing.T) {
	for _, n := range someCounts {
		holdDue(t, n, 0, 0)
		holdDue(t, n, sign, 0)
	}
}

func TestDueAtTheSmallestPrices(t *testing.T) {
	for _, n := range someCounts {
		for _, bits := range []uint64{least, 2, 3, belowNormal - 1, belowNormal, normal, normal + 1} {
			holdDue(t, n, bits, 0)
		}
	}
}

// Each price has every seventh number of bytes, beginning at another one than the price ahead of it: all of them by all take too long.
func TestDueIsExact(t *testing.T) {
	for i, bits := range somePrices {
		for k := i % 7; k < len(someCounts); k += 7 {
			holdDue(t, someCounts[k], bits, comesTo(someCounts[k], bits))
		}
	}
}

// The exponents at which a product of two words is turned by so many bits that a word is left, or both are.
func TestDueByEachExponent(t *testing.T) {
	next := noise()
	for e := -140; e <= 80; e++ {
		for _, m := range []uint64{1, 3, 1<<52 + 1, 1<<53 - 1, next()>>11 | 1} {
			bits := bitsOf(math.Ldexp(float64(m), e))
			for _, n := range []uint64{1, 2, 3, 1 << 63, most - 1, most, next(), next() >> 20, next() >> 40} {
				holdDue(t, n, bits, comesTo(n, bits))
			}
		}
	}
}

// Numbers of bytes that come, at a price, to about a whole number, or to about 2^64 - 1, which few of all numbers do.
func TestDueCloseToItsEdges(t *testing.T) {
	next := noise()
	for range 20000 {
		bits := bitsOf(math.Ldexp(float64(next()>>11), int(next()%64)-58))
		at := new(big.Rat).SetFloat64(math.Float64frombits(bits))
		if at.Sign() == 0 {
			continue
		}
		for _, edge := range []uint64{most, next(), next() >> 32} {
			q := new(big.Rat).Quo(new(big.Rat).SetInt(whole(edge)), at)
			n := atMost(new(big.Int).Quo(q.Num(), q.Denom()))
			for _, n := range []uint64{n - 1, n, n + 1} {
				holdDue(t, n, bits, comesTo(n, bits))
			}
		}
	}
}

// P6.1: what is no price

func TestWhatIsNotANumberIsRefused(t *testing.T) {
	for _, bits := range none {
		holdRefused(t, bits)
	}
	next := noise()
	for range 1000 {
		payload := max(next()>>12, 1)
		holdRefused(t, infinite|payload)
		holdRefused(t, sign|infinite|payload)
	}
}

func TestInfinitePricesAndThoseBelow0AreRefused(t *testing.T) {
	for _, bits := range refused {
		holdRefused(t, bits)
	}
	for _, f := range []float64{math.Inf(1), math.Inf(-1), -1, -0.1, -1e-300, -math.MaxFloat64, -math.SmallestNonzeroFloat64} {
		holdRefused(t, bitsOf(f))
	}
	for _, bits := range somePrices {
		if bits != 0 && bits != sign {
			holdRefused(t, sign|bits)
		}
	}
}

// P6.2

func TestSums(t *testing.T) {
	for _, x := range []struct {
		a, b, sum uint64
		over      bool
	}{
		{0, 0, 0, false}, {0, 1, 1, false}, {1, 1, 2, false}, {2, 3, 5, false}, {24, 50, 74, false}, {1 << 32, 1 << 32, 1 << 33, false},
		{0, most - 1, most - 1, false}, {1, most - 2, most - 1, false}, {1<<63 - 1, 1<<63 - 1, most - 1, false},
		{0, most, most, false}, {1, most - 1, most, false}, {1<<63 - 1, 1 << 63, most, false}, {most / 3, most / 3 * 2, most, false},
		{1, most, most, true}, {2, most - 1, most, true}, {1 << 63, 1 << 63, most, true}, {most/3 + 1, most / 3 * 2, most, true},
		{2, most, most, true}, {1 << 63, 1<<63 + 1, most, true}, {1 << 63, most, most, true}, {most - 1, most - 1, most, true}, {most - 1, most, most, true}, {most, most, most, true},
	} {
		holdSum(t, x.a, x.b, x.sum, x.over)
		holdSum(t, x.b, x.a, x.sum, x.over)
	}
}

func holdSum(t *testing.T, a, b, sum uint64, over bool) {
	t.Helper()
	if got := price.Add(a, b); got != sum {
		t.Errorf("%d and %d: %d, not %d", a, b, got, sum)
	}
	if got := price.Over(a, b); got != over {
		t.Errorf("%d and %d are over: %t", a, b, got)
	}
}

func TestSumsOfEachTwo(t *testing.T) {
	next := noise()
	for _, a := range someCounts {
		others := append([]uint64{most - a, most - a + 1, most - a - 1, next()}, someCounts...)
		for _, b := range others {
			sum := new(big.Int).Add(whole(a), whole(b))
			holdSum(t, a, b, atMost(sum), !sum.IsUint64())
		}
	}
}

// P6.3

// must is what n bytes come to, at what is a price.
func must(t *testing.T, n, bits uint64) uint64 {
	t.Helper()
	due, err := price.Due(n, bits)
	if err != api.OK {
		t.Fatalf("%d bytes at %016x: error %d", n, bits, err)
	}
	return due
}

// holdRising: each of a list, which is in order, comes to no less than the one ahead of it.
func holdRising(t *testing.T, l []uint64, due func(uint64) uint64) {
	t.Helper()
	before := uint64(0)
	for _, x := range l {
		got := due(x)
		if got < before {
			t.Errorf("%016x comes to %d, and the one ahead of it to %d", x, got, before)
		}
		before = got
	}
}

func TestMoreBytesNeverComeToLess(t *testing.T) {
	for _, bits := range somePrices {
		holdRising(t, someCounts, func(n uint64) uint64 { return must(t, n, bits) })
	}
}

func TestAGreaterPriceNeverComesToLess(t *testing.T) {
	for _, n := range someCounts {
		holdRising(t, somePrices, func(bits uint64) uint64 { return must(t, n, bits) })
	}
}

func TestNeighboursNeverComeToLess(t *testing.T) {
	next := noise()
	for range 50000 {
		n, bits := next()>>(next()%64), bitsOf(math.Ldexp(1+float64(next()>>12)*0x1p-52, int(next()%130)-65))
		due := must(t, n, bits)
		if n < most && must(t, n+1, bits) < due {
			t.Errorf("%d bytes at %016x come to %d, one more to less", n, bits, due)
		}
		if must(t, n, bits+1) < due {
			t.Errorf("%d bytes at %016x come to %d, at the next price to less", n, bits, due)
		}
	}
}

func TestNothingComesTo0(t *testing.T) {
	for _, bits := range somePrices {
		holdDue(t, 0, bits, 0)
	}
}

// A price as Check answers it comes to what the price as it was handed in comes to.
func TestDueOfACheckedPrice(t *testing.T) {
	for _, bits := range somePrices {
		checked, err := price.Check(bits)
		if err != api.OK {
			t.Fatalf("%016x: error %d", bits, err)
		}
		for _, n := range []uint64{0, 1, 10, 1 << 40, most} {
			holdDue(t, n, checked, must(t, n, bits))
		}
	}
}
