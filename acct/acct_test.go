package acct_test

import (
	"fmt"
	"math"
	"math/big"
	"regexp"
	"slices"
	"strings"
	"testing"

	"taximeter/acct"
	"taximeter/api"
	"taximeter/rec"
)

const most = uint64(math.MaxUint64)

// The bits of some prices, and at the edges of what a price may be.
const (
	minusZero = uint64(1) << 63
	quarter   = uint64(0x3fd0000000000000)
	half      = uint64(0x3fe0000000000000)
	one       = uint64(0x3ff0000000000000)
	greatest  = uint64(0x7fefffffffffffff)
	infinite  = uint64(0x7ff0000000000000)
)

// prices may be, without edges.
var prices = []uint64{0, 1, 0x000fffffffffffff, 0x0010000000000000, quarter, half, one - 1, one, one + 1, math.Float64bits(0.1), math.Float64bits(3), math.Float64bits(1e300), greatest}

// noPrices may not be: those below 0, those that are infinite or not a number.
var noPrices = []uint64{
	minusZero | 1, minusZero | half, minusZero | one, minusZero | greatest, infinite, minusZero | infinite,
	infinite + 1, infinite | 1<<51, infinite | 1<<51 | 1, minusZero - 1, minusZero | infinite | 1, minusZero | infinite | 1<<51, most,
}

var names = []string{"a", "z", "acme", "a-1", "z0", "abcdefghijklmnop"}

var noNames = []string{"", "-", "1", "1a", "-a", "A", "Acme", "a b", " a", "a ", "a.b", "a\x00", "é", "a\xff", "abcdefghijklmnopq", strings.Repeat("a", 300)}

// amounts are numbers of bytes: few, a great many, and the greatest.
var amounts = []uint64{0, 1, 2, 3, 5, 6, 10, 24, 100, 1 << 32, 1<<63 - 1, 1 << 63, 1<<63 + 1, most - 10, most - 1, most}

var isTenant = regexp.MustCompile(`\A[a-z][a-z0-9-]{0,15}\z`)

// noise makes numbers of all bits, ever the same ones.
func noise() func() uint64 {
	x := uint64(88172645463325252)
	return func() uint64 {
		x ^= x << 13
		x ^= x >> 7
		x ^= x << 17
		return x * 2685821657736338717
	}
}

// dice picks numbers below another one.
func dice() func(n int) int {
	next := noise()
	return func(n int) int { return int(next() >> 32 % uint64(n)) }
}

// Records of the tenant a.

func capOf(n uint64) api.Record {
	return api.Record{Seq: 1, Kind: api.RecCap, Tenant: "a", N: n}
}

func priceOf(bits uint64) api.Record {
	return api.Record{Seq: 1, Kind: api.RecPrice, Tenant: "a", Bits: bits}
}

func reserve(id, n uint64) api.Record {
	return api.Record{Seq: 1, Kind: api.RecReserve, Tenant: "a", Lease: id, N: n}
}

func settle(id, n uint64) api.Record {
	return api.Record{Seq: 1, Kind: api.RecSettle, Tenant: "a", Lease: id, N: n}
}

func shut() api.Record {
	return api.Record{Seq: 1, Kind: api.RecClose, Tenant: "a"}
}

// eachKind is a record of each kind, of the tenant a.
func eachKind() []api.Record {
	return []api.Record{capOf(5), priceOf(quarter), reserve(9, 1), settle(1, 1), shut()}
}

// leases are of these Ids and sizes by turns.
func leases(l ...uint64) []api.Lease {
	var out []api.Lease
	for i := 0; i+1 < len(l); i += 2 {
		out = append(out, api.Lease{Id: l[i], Size: l[i+1]})
	}
	return out
}

// The chapter's words, put down once more, with numbers of any length.

func whole(n uint64) *big.Int {
	return new(big.Int).SetUint64(n)
}

// atMost is n, 2^64 - 1 at most.
func atMost(n *big.Int) uint64 {
	if n.IsUint64() {
		return n.Uint64()
	}
	return most
}

// together is how much is out, and some more.
func together(more uint64, l []api.Lease) *big.Int {
	n := whole(more)
	for _, x := range l {
		n.Add(n, whole(x.Size))
	}
	return n
}

func roomOf(a api.Account) uint64 {
	n := new(big.Int).Sub(whole(a.Cap), together(a.Used, a.Leases))
	if n.Sign() < 0 {
		return 0
	}
	return n.Uint64()
}

// isPrice is true of minus zero, too.
func isPrice(bits uint64) bool {
	f := math.Float64frombits(bits)
	return f >= 0 && !math.IsInf(f, 0)
}

// dueOf is what n bytes come to, done with fractions of any length; 0 at what is no price.
func dueOf(n, bits uint64) uint64 {
	if !isPrice(bits) {
		return 0
	}
	exactly := new(big.Rat).SetFloat64(math.Float64frombits(bits))
	exactly.Mul(exactly, new(big.Rat).SetInt(whole(n)))
	return atMost(new(big.Int).Quo(exactly.Num(), exactly.Denom()))
}

// firstOf is the place of the first lease of an Id.
func firstOf(l []api.Lease, id uint64) int {
	for i, x := range l {
		if x.Id == id {
			return i
		}
	}
	return -1
}

func isAboveAll(id uint64, l []api.Lease) bool {
	for _, x := range l {
		if id <= x.Id {
			return false
		}
	}
	return true
}

func check(a api.Account, r api.Record) api.Errno {
	if err := rec.Check(r); err != api.OK {
		return err
	}
	at := firstOf(a.Leases, r.Lease)
	switch {
	case a.Tenant != r.Tenant:
		return api.ErrName
	case r.Kind == api.RecReserve && !isAboveAll(r.Lease, a.Leases):
		return api.ErrThere
	case r.Kind == api.RecReserve && r.N > roomOf(a):
		return api.ErrQuota
	case r.Kind == api.RecSettle && at < 0:
		return api.ErrNone
	case r.Kind == api.RecSettle && r.N > a.Leases[at].Size:
		return api.ErrRange
	case r.Kind == api.RecClose && len(a.Leases) > 0:
		return api.ErrOrder
	case r.Kind == api.RecClose && a.Period >= 65536:
		return api.ErrLong
	}
	return api.OK
}

// behind is the account behind a record that may come to it.
func behind(a api.Account, r api.Record) api.Account {
	a.Leases, a.Closed = slices.Clone(a.Leases), slices.Clone(a.Closed)
	switch r.Kind {
	case api.RecCap:
		a.Cap = r.N
	case api.RecPrice:
		a.Bits = r.Bits
	case api.RecReserve:
		a.Leases = append(a.Leases, api.Lease{Id: r.Lease, Size: r.N})
	case api.RecSettle:
		at := firstOf(a.Leases, r.Lease)
		a.Leases = append(a.Leases[:at:at], a.Leases[at+1:]...)
		a.Used = atMost(new(big.Int).Add(whole(a.Used), whole(r.N)))
	case api.RecClose:
		a.Closed = append(a.Closed, api.Statement{Tenant: a.Tenant, Period: a.Period, Used: a.Used, Cap: a.Cap, Bits: a.Bits, Due: dueOf(a.Used, a.Bits)})
		a.Period, a.Used = a.Period+1, 0
	}
	return a
}

func isRight(a api.Account) bool {
	for i, x := range a.Leases {
		if x.Id == 0 || x.Size == 0 || i > 0 && a.Leases[i-1].Id >= x.Id {
			return false
		}
	}
	for i, s := range a.Closed {
		if s.Tenant != a.Tenant || s.Period != uint64(i) || !isPrice(s.Bits) || s.Bits == minusZero || s.Due != dueOf(s.Used, s.Bits) {
			return false
		}
	}
	return isTenant.MatchString(a.Tenant) && together(a.Used, a.Leases).IsUint64() && isPrice(a.Bits) && a.Bits != minusZero && a.Period <= 65536 && whole(a.Period).Cmp(big.NewInt(int64(len(a.Closed)))) == 0
}

// isSame is true of lists that are nil and empty, too.
func isSame(a, b api.Account) bool {
	type rest struct {
		tenant                  string
		cap, used, bits, period uint64
	}
	return rest{a.Tenant, a.Cap, a.Used, a.Bits, a.Period} == rest{b.Tenant, b.Cap, b.Used, b.Bits, b.Period} &&
		slices.Equal(a.Leases, b.Leases) && slices.Equal(a.Closed, b.Closed)
}

// short is an account as a message can bear it.
func short(a api.Account) string {
	s := fmt.Sprintf("%+v", a)
	if len(s) > 600 {
		return s[:600] + ".."
	}
	return s
}

// roomy is the same account, whose lists have room behind their ends. The function tells whether any of it was changed.
func roomy(a api.Account) (api.Account, func() bool) {
	l := append(slices.Clone(a.Leases), leases(70, 71, 72, 73, 74, 75)...)
	s := append(slices.Clone(a.Closed), api.Statement{Tenant: "behind", Used: 76}, api.Statement{Due: 77})
	leasesThen, closedThen := slices.Clone(l), slices.Clone(s)
	a.Leases, a.Closed = l[:len(a.Leases)], s[:len(a.Closed)]
	return a, func() bool { return !slices.Equal(l, leasesThen) || !slices.Equal(s, closedThen) }
}

// scribble changes all of an account's lists, and the room behind their ends.
func scribble(a api.Account) {
	for i := range a.Leases[:cap(a.Leases)] {
		a.Leases[:cap(a.Leases)][i] = api.Lease{Id: 80, Size: 81}
	}
	for i := range a.Closed[:cap(a.Closed)] {
		a.Closed[:cap(a.Closed)][i] = api.Statement{Tenant: "scribbled", Period: 82}
	}
}

// holdRefused: both calls tell the error, and the account stays as it is.
func holdRefused(t *testing.T, a api.Account, r api.Record, want api.Errno) {
	t.Helper()
	in, changed := roomy(a)
	if err := acct.Check(in, r); err != want {
		t.Errorf("Check(%s, %+v): error %d, not %d", short(a), r, err, want)
	}
	if got, err := acct.Apply(in, r); err != want || !isSame(got, api.Account{}) {
		t.Errorf("Apply(%s, %+v): %s, error %d, not %d", short(a), r, short(got), err, want)
	}
	if changed() {
		t.Errorf("%+v, which is refused, changed %s", r, short(a))
	}
}

// holdApplied: the record may come, and the account behind it is another one, in new memory.
func holdApplied(t *testing.T, a api.Account, r api.Record, want api.Account) api.Account {
	t.Helper()
	in, changed := roomy(a)
	if err := acct.Check(in, r); err != api.OK {
		t.Errorf("Check(%s, %+v): error %d", short(a), r, err)
	}
	got, err := acct.Apply(in, r)
	if err != api.OK || !isSame(got, want) {
		t.Errorf("Apply(%s, %+v): %s, error %d, not %s", short(a), r, short(got), err, short(want))
	}
	out := got
	out.Leases, out.Closed = slices.Clone(got.Leases), slices.Clone(got.Closed)
	scribble(got)
	if changed() {
		t.Errorf("%+v changed %s, or shares memory with what is behind it", r, short(a))
	}
	return out
}

// holdAsSaid: the record is answered as the chapter's words have it.
func holdAsSaid(t *testing.T, a api.Account, r api.Record) api.Errno {
	t.Helper()
	err := check(a, r)
	if err != api.OK {
		holdRefused(t, a, r, err)
		return err
	}
	holdApplied(t, a, r, behind(a, r))
	return err
}

// apply is the account behind records that all may come.
func apply(t *testing.T, a api.Account, l ...api.Record) api.Account {
	t.Helper()
	for _, r := range l {
		got, err := acct.Apply(a, r)
		if err != api.OK {
			t.Fatalf("%+v to %s: error %d", r, short(a), err)
		}
		a = got
	}
	return a
}

// rightOnes are accounts of the tenant a that are right.
func rightOnes() []api.Account {
	closed := []api.Statement{
		{Tenant: "a", Used: 5, Cap: 10, Bits: half, Due: 2},
		{Tenant: "a", Period: 1, Used: 0, Cap: 0, Bits: 0, Due: 0},
		{Tenant: "a", Period: 2, Used: 30, Cap: 7, Bits: one, Due: 30},
		{Tenant: "a", Period: 3, Used: most, Cap: most, Bits: greatest, Due: most},
	}
	return []api.Account{
		{Tenant: "a"},
		{Tenant: "a", Cap: 50, Bits: quarter},
		{Tenant: "a", Cap: 10, Leases: leases(1, 6)},
		{Tenant: "a", Cap: 100, Used: 7, Leases: leases(1, 24, 2, 24, 5, 3)},
		{Tenant: "a", Cap: 3, Used: 40, Leases: leases(7, 9)}, // the cap was lowered
		{Tenant: "a", Used: most},
		{Tenant: "a", Cap: most, Used: 1, Bits: greatest, Leases: leases(3, most-1)},
		{Tenant: "a", Cap: most, Leases: leases(1, 1, 2, most-2, most, 1)},
		{Tenant: "a", Cap: 9, Used: 2, Bits: one, Period: 1, Closed: closed[:1]},
		{Tenant: "a", Cap: 9, Used: 2, Bits: half, Period: 2, Leases: leases(4, 4, 8, 1), Closed: closed[:2]},
		{Tenant: "a", Cap: 20, Period: 4, Closed: closed},
	}
}

// wrongOnes are accounts of the tenant a that are not right.
func wrongOnes() []api.Account {
	return []api.Account{
		{Tenant: "a", Cap: 50, Leases: leases(0, 5)},
		{Tenant: "a", Cap: 50, Leases: leases(1, 0)},
		{Tenant: "a", Cap: 50, Leases: leases(1, 5, 1, 7)},
		{Tenant: "a", Cap: 50, Leases: leases(1, 7, 1, 5, 1, 6)},
		{Tenant: "a", Cap: 90, Leases: leases(6, 5, 3, 7, 4, 1)},
		{Tenant: "a", Cap: most, Used: most, Leases: leases(1, 1)},
		{Tenant: "a", Cap: most, Used: 2, Leases: leases(1, most, 2, most, 3, most)},
		{Tenant: "a", Cap: 9, Used: 5, Bits: minusZero},
		{Tenant: "a", Cap: 9, Used: 5, Bits: infinite},
		{Tenant: "a", Cap: 9, Used: 5, Bits: most},
		{Tenant: "a", Cap: 9, Used: 5, Period: 3},
		{Tenant: "a", Cap: 9, Used: 5, Bits: one, Period: api.MaxPeriods - 1},
		{Tenant: "a", Cap: 9, Used: 5, Closed: []api.Statement{{Tenant: "b", Period: 4, Used: 1, Cap: 2, Bits: infinite, Due: 3}}},
		{Tenant: "a", Cap: 9, Used: 5, Period: 1, Closed: []api.Statement{{}, {}}},
	}
}

// P15.1: Out, Use, Room

func holdSums(t *testing.T, a api.Account, out, use, room uint64) {
	t.Helper()
	in, changed := roomy(a)
	if got := acct.Out(in); got != out {
		t.Errorf("out of %s: %d, not %d", short(a), got, out)
	}
	if got := acct.Use(in); got != use {
		t.Errorf("the use of %s: %d, not %d", short(a), got, use)
	}
	if got := acct.Room(in); got != room {
		t.Errorf("the room of %s: %d, not %d", short(a), got, room)
	}
	if changed() {
		t.Errorf("%s was changed", short(a))
	}
}

func TestExample(t *testing.T) {
	a := apply(t, api.Account{Tenant: "a"}, capOf(10), reserve(1, 6))
	holdSums(t, a, 6, 6, 4)
	a = apply(t, a, settle(1, 2))
	holdSums(t, a, 0, 2, 8)
}

func TestSums(t *testing.T) {
	for _, x := range []struct {
		a              api.Account
		out, use, room uint64
	}{
		{api.Account{}, 0, 0, 0},
		{api.Account{Cap: 7}, 0, 0, 7},
		{api.Account{Used: 7}, 0, 7, 0},
		{api.Account{Cap: 50, Used: 7}, 0, 7, 43},
		{api.Account{Cap: 50, Leases: leases(1, 24)}, 24, 24, 26},
		{api.Account{Cap: 50, Used: 7, Leases: leases(1, 24)}, 24, 31, 19},
		{api.Account{Cap: 50, Used: 7, Leases: leases(1, 24, 2, 10, 9, 3)}, 37, 44, 6},
		{api.Account{Cap: 31, Used: 7, Leases: leases(1, 24)}, 24, 31, 0},
		{api.Account{Cap: 32, Used: 7, Leases: leases(1, 24)}, 24, 31, 1},
		{api.Account{Cap: 30, Used: 7, Leases: leases(1, 24)}, 24, 31, 0},
		{api.Account{Cap: 23, Used: 24, Leases: leases(1, 24)}, 24, 48, 0},
		{api.Account{Cap: 50, Used: 7, Bits: one, Period: 2, Closed: []api.Statement{{Used: 30}, {Used: 40, Cap: 60}}}, 0, 7, 43},
		{api.Account{Tenant: "A", Cap: 9, Bits: infinite, Period: most, Leases: leases(5, 1, 5, 2, 0, 3)}, 6, 6, 3},
	} {
		holdSums(t, x.a, x.out, x.use, x.room)
	}
}

func TestSumsAtTheGreatestNumber(t *testing.T) {
	for _, x := range []struct {
		a              api.Account
		out, use, room uint64
	}{
		{api.Account{Cap: most}, 0, 0, most},
		{api.Account{Cap: most, Used: most - 1}, 0, most - 1, 1},
		{api.Account{Cap: most, Used: most}, 0, most, 0},
		{api.Account{Cap: most, Leases: leases(1, most)}, most, most, 0},
		{api.Account{Cap: most, Used: 1, Leases: leases(1, most-1)}, most - 1, most, 0},
		{api.Account{Cap: most, Used: 1, Leases: leases(1, most-2)}, most - 2, most - 1, 1},
		{api.Account{Cap: most, Used: 2, Leases: leases(1, most-1)}, most - 1, most, 0},
		{api.Account{Cap: most, Used: 5, Leases: leases(1, most)}, most, most, 0},
		{api.Account{Cap: most, Leases: leases(1, 1<<63, 2, 1<<63-1)}, most, most, 0},
		{api.Account{Cap: most, Leases: leases(1, 1<<63, 2, 1<<63)}, most, most, 0},
		{api.Account{Cap: most, Leases: leases(1, 1<<63, 2, 1<<63, 3, 7)}, most, most, 0},
		{api.Account{Cap: 5, Leases: leases(1, most, 2, 2)}, most, most, 0},
		{api.Account{Cap: most, Used: most, Leases: leases(1, 1)}, 1, most, 0},
		{api.Account{Cap: most, Used: most, Leases: leases(1, most, 2, most)}, most, most, 0},
		{api.Account{Cap: 1 << 63, Used: 1 << 63, Leases: leases(1, 1<<63, 2, 1)}, 1<<63 + 1, most, 0},
	} {
		holdSums(t, x.a, x.out, x.use, x.room)
	}
}

func TestSumsOfManyAccounts(t *testing.T) {
	for _, n := range amounts {
		for _, used := range amounts {
			for _, x := range amounts {
				for _, y := range amounts {
					a := api.Account{Cap: n, Used: used, Leases: leases(1, x, 2, y)}
					holdSums(t, a, atMost(together(0, a.Leases)), atMost(together(used, a.Leases)), roomOf(a))
				}
			}
		}
	}
}

// P15.1: Check and Apply, by kinds

func TestCaps(t *testing.T) {
	for _, a := range append(rightOnes(), wrongOnes()...) {
		for _, n := range amounts {
			want := a
			want.Cap = n
			holdApplied(t, a, capOf(n), want)
		}
	}
}

func TestPrices(t *testing.T) {
	for _, a := range append(rightOnes(), wrongOnes()...) {
		for _, bits := range prices {
			want := a
			want.Bits = bits
			holdApplied(t, a, priceOf(bits), want)
		}
	}
}

func TestReserves(t *testing.T) {
	a := api.Account{Tenant: "a", Cap: 50}
	a = holdApplied(t, a, reserve(3, 24), api.Account{Tenant: "a", Cap: 50, Leases: leases(3, 24)})
	a = holdApplied(t, a, reserve(4, 1), api.Account{Tenant: "a", Cap: 50, Leases: leases(3, 24, 4, 1)})
	a = holdApplied(t, a, reserve(90, 25), api.Account{Tenant: "a", Cap: 50, Leases: leases(3, 24, 4, 1, 90, 25)})
	holdRefused(t, a, reserve(91, 1), api.ErrQuota)
	a = apply(t, a, capOf(most))
	a = holdApplied(t, a, reserve(most, most-50), api.Account{Tenant: "a", Cap: most, Leases: leases(3, 24, 4, 1, 90, 25, most, most-50)})
	holdRefused(t, a, reserve(most, 1), api.ErrThere)
}

func TestReservesAroundTheLeases(t *testing.T) {
	for _, l := range [][]api.Lease{
		leases(5, 1), leases(1, 1, 5, 1), leases(2, 1, 3, 1, 5, 1), // as they rise
		leases(5, 1, 1, 1), leases(5, 1, 5, 1), leases(1, 1, 5, 1, 2, 1), leases(0, 1, 5, 1, 0, 1), leases(5, 0), // not right
	} {
		a := api.Account{Tenant: "a", Cap: 50, Leases: l}
		for id := uint64(1); id <= 5; id++ {
			holdRefused(t, a, reserve(id, 1), api.ErrThere)
		}
		for _, id := range []uint64{6, 7, 1 << 40, most} {
			want := a
			want.Leases = append(slices.Clone(l), api.Lease{Id: id, Size: 1})
			holdApplied(t, a, reserve(id, 1), want)
		}
	}
	for _, id := range []uint64{1, 2, most - 1, most} {
		holdRefused(t, api.Account{Tenant: "a", Cap: 50, Leases: leases(most, 1)}, reserve(id, 1), api.ErrThere)
		holdApplied(t, api.Account{Tenant: "a", Cap: 50, Leases: leases(0, 1)}, reserve(id, 1), api.Account{Tenant: "a", Cap: 50, Leases: leases(0, 1, id, 1)})
		holdApplied(t, api.Account{Tenant: "a", Cap: 50}, reserve(id, 1), api.Account{Tenant: "a", Cap: 50, Leases: leases(id, 1)})
	}
}

func TestReservesAroundTheRoom(t *testing.T) {
	for _, n := range amounts {
		for _, used := range amounts {
			for _, size := range amounts {
				a := api.Account{Tenant: "a", Cap: n, Used: used, Leases: leases(1, size)}
				room := roomOf(a)
				for _, more := range []uint64{1, 2, room - 1, room, room + 1, most - 1, most} {
					if more == 0 {
						continue
					}
					if more > room {
						holdRefused(t, a, reserve(2, more), api.ErrQuota)
						continue
					}
					want := a
					want.Leases = leases(1, size, 2, more)
					holdApplied(t, a, reserve(2, more), want)
				}
			}
		}
	}
}

// What was used in periods that are closed takes no room.
func TestReservesBehindAClose(t *testing.T) {
	a := apply(t, api.Account{Tenant: "a"}, capOf(10), reserve(1, 10), settle(1, 10))
	holdRefused(t, a, reserve(2, 1), api.ErrQuota)
	a = apply(t, a, shut(), reserve(2, 10))
	holdRefused(t, a, reserve(3, 1), api.ErrQuota)
}

// With no lease open an Id may come again.
func TestReservesOfAnIdThatIsSettled(t *testing.T) {
	a := apply(t, api.Account{Tenant: "a"}, capOf(10), reserve(3, 2), reserve(4, 2), settle(4, 0))
	holdRefused(t, a, reserve(3, 1), api.ErrThere)
	a = apply(t, a, reserve(4, 2), settle(3, 0), settle(4, 1))
	holdApplied(t, a, reserve(1, 1), api.Account{Tenant: "a", Cap: 10, Used: 1, Leases: leases(1, 1)})
}

func TestSettles(t *testing.T) {
	a := api.Account{Tenant: "a", Cap: 50, Used: 3, Leases: leases(2, 24, 5, 10, 9, 1)}
	for n := range uint64(25) {
		holdApplied(t, a, settle(2, n), api.Account{Tenant: "a", Cap: 50, Used: 3 + n, Leases: leases(5, 10, 9, 1)})
	}
	for n := range uint64(11) {
		holdApplied(t, a, settle(5, n), api.Account{Tenant: "a", Cap: 50, Used: 3 + n, Leases: leases(2, 24, 9, 1)})
	}
	for n := range uint64(2) {
		holdApplied(t, a, settle(9, n), api.Account{Tenant: "a", Cap: 50, Used: 3 + n, Leases: leases(2, 24, 5, 10)})
	}
	for _, n := range []uint64{25, 26, 50, most} {
		holdRefused(t, a, settle(2, n), api.ErrRange)
	}
	for _, n := range []uint64{11, 24, most} {
		holdRefused(t, a, settle(5, n), api.ErrRange)
	}
	holdRefused(t, a, settle(9, 2), api.ErrRange)
	for _, id := range []uint64{1, 3, 4, 6, 8, 10, most} {
		for _, n := range []uint64{0, 1, 100, most} {
			holdRefused(t, a, settle(id, n), api.ErrNone)
		}
	}
	a = apply(t, a, settle(5, 4), settle(2, 24), settle(9, 0))
	if !isSame(a, api.Account{Tenant: "a", Cap: 50, Used: 31}) {
		t.Errorf("behind all settles: %s", short(a))
	}
	holdRefused(t, a, settle(5, 0), api.ErrNone)
}

// A cap below the use keeps no lease from being settled.
func TestSettlesAboveTheCap(t *testing.T) {
	holdApplied(t, api.Account{Tenant: "a", Used: 3, Leases: leases(2, 24)}, settle(2, 24), api.Account{Tenant: "a", Used: 27})
	holdApplied(t, api.Account{Tenant: "a", Leases: leases(1, most)}, settle(1, most), api.Account{Tenant: "a", Used: most})
}

func TestSettlesInAccountsThatAreNotRight(t *testing.T) {
	a := api.Account{Tenant: "a", Cap: 50, Leases: leases(4, 5, 4, 7, 1, 2, 4, 6)}
	holdRefused(t, a, settle(4, 6), api.ErrRange)
	a = holdApplied(t, a, settle(4, 5), api.Account{Tenant: "a", Cap: 50, Used: 5, Leases: leases(4, 7, 1, 2, 4, 6)})
	a = holdApplied(t, a, settle(4, 7), api.Account{Tenant: "a", Cap: 50, Used: 12, Leases: leases(1, 2, 4, 6)})
	holdRefused(t, a, settle(4, 7), api.ErrRange)
	a = holdApplied(t, a, settle(4, 0), api.Account{Tenant: "a", Cap: 50, Used: 12, Leases: leases(1, 2)})
	holdRefused(t, a, settle(4, 0), api.ErrNone)

	empty := api.Account{Tenant: "a", Leases: leases(1, 0)}
	holdRefused(t, empty, settle(1, 1), api.ErrRange)
	holdApplied(t, empty, settle(1, 0), api.Account{Tenant: "a"})
}

func TestUsedStopsAtTheGreatestNumber(t *testing.T) {
	for _, x := range []struct{ used, n, want uint64 }{
		{most - 5, 4, most - 1}, {most - 5, 5, most}, {most - 5, 6, most}, {most - 5, 7, most}, {most, 0, most}, {most, 1, most}, {1, most, most}, {most, most, most}, {1 << 63, 1 << 63, most},
	} {
		a := api.Account{Tenant: "a", Used: x.used, Leases: leases(2, x.n, 3, 1)}
		holdApplied(t, a, settle(2, x.n), api.Account{Tenant: "a", Used: x.want, Leases: leases(3, 1)})
	}
}

func TestCloses(t *testing.T) {
	a := api.Account{Tenant: "a", Cap: 10, Used: 5, Bits: half}
	first := api.Statement{Tenant: "a", Period: 0, Used: 5, Cap: 10, Bits: half, Due: 2}
	a = holdApplied(t, a, shut(), api.Account{Tenant: "a", Cap: 10, Bits: half, Period: 1, Closed: []api.Statement{first}})
	second := api.Statement{Tenant: "a", Period: 1, Used: 0, Cap: 10, Bits: half, Due: 0}
	a = holdApplied(t, a, shut(), api.Account{Tenant: "a", Cap: 10, Bits: half, Period: 2, Closed: []api.Statement{first, second}})
	a = apply(t, a, capOf(100), priceOf(math.Float64bits(1.5)), reserve(1, 24), settle(1, 7), capOf(3))
	third := api.Statement{Tenant: "a", Period: 2, Used: 7, Cap: 3, Bits: math.Float64bits(1.5), Due: 10}
	holdApplied(t, a, shut(), api.Account{Tenant: "a", Cap: 3, Bits: math.Float64bits(1.5), Period: 3, Closed: []api.Statement{first, second, third}})
}

func TestWhatIsDue(t *testing.T) {
	for _, used := range amounts {
		for _, bits := range prices {
			want := api.Account{Tenant: "a", Cap: 4, Bits: bits, Period: 1, Closed: []api.Statement{{Tenant: "a", Used: used, Cap: 4, Bits: bits, Due: dueOf(used, bits)}}}
			holdApplied(t, api.Account{Tenant: "a", Cap: 4, Used: used, Bits: bits}, shut(), want)
		}
	}
}

// Of a price that may not be, or is minus zero, nothing is due; the statement has it as it is.
func TestNothingIsDueOfWhatIsNoPrice(t *testing.T) {
	for _, bits := range append([]uint64{minusZero}, noPrices...) {
		for _, used := range []uint64{0, 1, 5, most} {
			want := api.Account{Tenant: "a", Bits: bits, Period: 1, Closed: []api.Statement{{Tenant: "a", Used: used, Bits: bits}}}
			holdApplied(t, api.Account{Tenant: "a", Used: used, Bits: bits}, shut(), want)
		}
	}
}

func TestClosesWithOpenLeases(t *testing.T) {
	for _, l := range [][]api.Lease{leases(1, 1), leases(most, most), leases(1, 1, 2, 2), leases(0, 0), leases(1, 0)} {
		for _, period := range []uint64{0, 1, api.MaxPeriods - 1, api.MaxPeriods, api.MaxPeriods + 1, most} {
			holdRefused(t, api.Account{Tenant: "a", Cap: 50, Period: period, Leases: l}, shut(), api.ErrOrder)
		}
	}
}

func TestClosesAroundTheLastPeriod(t *testing.T) {
	for _, period := range []uint64{0, 1, 2, 1 << 15, api.MaxPeriods - 2, api.MaxPeriods - 1} {
		a := api.Account{Tenant: "a", Used: 4, Period: period}
		holdApplied(t, a, shut(), api.Account{Tenant: "a", Period: period + 1, Closed: []api.Statement{{Tenant: "a", Period: period, Used: 4}}})
	}
	for _, period := range []uint64{api.MaxPeriods, api.MaxPeriods + 1, 1 << 17, 1 << 32, 1 << 63, most - 1, most} {
		a := api.Account{Tenant: "a", Cap: 9, Used: 4, Period: period}
		holdRefused(t, a, shut(), api.ErrLong)
		for _, r := range []api.Record{capOf(3), priceOf(one), reserve(1, 5)} {
			holdApplied(t, a, r, behind(a, r))
		}
	}
}

// manyClosed is an account with so many periods that are closed.
func manyClosed(n int) api.Account {
	a := api.Account{Tenant: "a", Cap: 50, Used: 3, Bits: half, Period: uint64(n)}
	for i := range n {
		a.Closed = append(a.Closed, api.Statement{Tenant: "a", Period: uint64(i), Used: uint64(i % 50), Cap: 50, Bits: half, Due: uint64(i % 50 / 2)})
	}
	return a
}

func TestTheLastPeriod(t *testing.T) {
	a := manyClosed(api.MaxPeriods - 1)
	holdRight(t, a, true)
	a = apply(t, a, shut())
	holdRight(t, a, true)
	if len(a.Closed) != 65536 || a.Period != 65536 || a.Closed[65535] != (api.Statement{Tenant: "a", Period: 65535, Used: 3, Cap: 50, Bits: half, Due: 1}) {
		t.Errorf("%d closed, period %d", len(a.Closed), a.Period)
	}
	if got, err := acct.Apply(a, shut()); err != api.ErrLong || !isSame(got, api.Account{}) {
		t.Errorf("one close more: error %d", err)
	}
	a = apply(t, a, reserve(1, 50), settle(1, 8))
	holdRight(t, a, true)
}

// P15.1: Check and Apply, by errors

// wrongs are records that may not be, by the error that layer 11 has of them.
var wrongs = []struct {
	r   api.Record
	err api.Errno
}{
	{api.Record{}, api.ErrKind},
	{api.Record{Seq: 1, Tenant: "a"}, api.ErrKind},
	{api.Record{Seq: 1, Kind: 6, Tenant: "a"}, api.ErrKind},
	{api.Record{Seq: 1, Kind: -1, Tenant: "a"}, api.ErrKind},
	{api.Record{Seq: 1, Kind: 257, Tenant: "a", N: 5}, api.ErrKind},
	{api.Record{Seq: 1, Kind: math.MinInt, Tenant: "a"}, api.ErrKind},
	{api.Record{Seq: 1, Kind: math.MaxInt, Tenant: "a"}, api.ErrKind},
	{api.Record{Seq: 1, Kind: api.RecCap}, api.ErrName},
	{api.Record{Seq: 1, Kind: api.RecClose, Tenant: "A"}, api.ErrName},
	{api.Record{Kind: api.RecReserve, Tenant: "abcdefghijklmnopq"}, api.ErrName},
	{api.Record{Kind: api.RecCap, Tenant: "a", N: 5}, api.ErrRange},
	{api.Record{Kind: api.RecPrice, Tenant: "a", Bits: infinite}, api.ErrRange},
	{api.Record{Kind: api.RecReserve, Tenant: "a", Lease: 9, N: 1}, api.ErrRange},
	{api.Record{Kind: api.RecSettle, Tenant: "a", Lease: 1}, api.ErrRange},
	{api.Record{Kind: api.RecClose, Tenant: "a"}, api.ErrRange},
	{reserve(0, 5), api.ErrRange},
	{reserve(9, 0), api.ErrRange},
	{reserve(0, 0), api.ErrRange},
	{settle(0, 0), api.ErrRange},
	{settle(0, most), api.ErrRange},
	{priceOf(minusZero), api.ErrPrice},
	{priceOf(infinite), api.ErrPrice},
	{priceOf(most), api.ErrPrice},
	{api.Record{Seq: 1, Kind: api.RecPrice, Tenant: "a", N: 5, Bits: minusZero | one}, api.ErrPrice},
	{api.Record{Seq: 1, Kind: api.RecCap, Tenant: "a", Lease: 1, N: 5}, api.ErrForm},
	{api.Record{Seq: 1, Kind: api.RecCap, Tenant: "a", N: 5, Bits: quarter}, api.ErrForm},
	{api.Record{Seq: 1, Kind: api.RecPrice, Tenant: "a", N: 1, Bits: quarter}, api.ErrForm},
	{api.Record{Seq: 1, Kind: api.RecReserve, Tenant: "a", Lease: 1, N: 99, Bits: 1}, api.ErrForm},
	{api.Record{Seq: 1, Kind: api.RecSettle, Tenant: "a", Lease: 77, N: 1, Bits: minusZero}, api.ErrForm},
	{api.Record{Seq: 1, Kind: api.RecClose, Tenant: "a", N: 1}, api.ErrForm},
	{api.Record{Seq: 1, Kind: api.RecClose, Tenant: "a", Lease: most}, api.ErrForm},
}

// What layer 11 has of a record is told ahead of whatever else there is of it, another tenant's, too.
func TestRecordsThatMayNotBe(t *testing.T) {
	l := append(rightOnes(), wrongOnes()...)
	l = append(l, api.Account{}, api.Account{Tenant: "b"}, api.Account{Tenant: "A", Cap: 50}, api.Account{Tenant: "a", Period: most, Leases: leases(0, 5, most, 1)})
	for _, a := range l {
		for _, x := range wrongs {
			holdRefused(t, a, x.r, x.err)
		}
	}
}

func TestRecordsOfAnotherTenant(t *testing.T) {
	for _, own := range append(names, noNames...) {
		for _, other := range append(names, "b", "aa", "a0", "ab", "abcdefghijklmno", "abcdefghijklmnoq") {
			if own == other {
				continue
			}
			for _, r := range append(eachKind(), reserve(1, 99), settle(7, 1), settle(1, 99)) {
				r.Tenant = other
				holdRefused(t, api.Account{Tenant: own, Cap: 50, Period: most, Leases: leases(1, 5)}, r, api.ErrName)
				holdRefused(t, api.Account{Tenant: own, Period: api.MaxPeriods}, r, api.ErrName)
			}
		}
	}
}

// A name that is none is no record's, so that such an account is changed by none.
func TestRecordsOfWhatIsNoName(t *testing.T) {
	for _, none := range noNames {
		for _, r := range eachKind() {
			holdRefused(t, api.Account{Tenant: none, Cap: 50, Leases: leases(1, 5)}, r, api.ErrName)
			r.Tenant = none
			holdRefused(t, api.Account{Tenant: none, Cap: 50, Leases: leases(1, 5)}, r, api.ErrName)
		}
	}
}

func TestEachTenant(t *testing.T) {
	for _, own := range names {
		a := api.Account{Tenant: own, Cap: 50, Used: 2, Leases: leases(1, 5)}
		for _, r := range eachKind()[:4] {
			r.Tenant = own
			holdApplied(t, a, r, behind(a, r))
		}
		a.Leases = nil
		r := shut()
		r.Tenant = own
		holdApplied(t, a, r, api.Account{Tenant: own, Cap: 50, Period: 1, Closed: []api.Statement{{Tenant: own, Used: 2, Cap: 50}}})
	}
}

func TestTheErrorThatIsNamedFirst(t *testing.T) {
	a := api.Account{Tenant: "a", Cap: 10, Leases: leases(3, 6)}
	holdRefused(t, a, reserve(3, 5), api.ErrThere) // above the room, too
	holdRefused(t, a, reserve(1, most), api.ErrThere)
	holdRefused(t, a, reserve(4, 5), api.ErrQuota)
	holdRefused(t, a, settle(4, 7), api.ErrNone) // above each lease's size, too
	holdRefused(t, a, settle(3, 7), api.ErrRange)
	a.Period = api.MaxPeriods
	holdRefused(t, a, shut(), api.ErrOrder) // in the last period, too
	a.Leases = nil
	holdRefused(t, a, shut(), api.ErrLong)
}

// A record's number is nothing to an account.
func TestEachSeq(t *testing.T) {
	for _, a := range rightOnes() {
		for _, r := range eachKind() {
			for _, seq := range []uint64{1, 2, 3, 1 << 32, most} {
				r.Seq = seq
				holdAsSaid(t, a, r)
			}
		}
	}
}

// P15.1: many accounts, right ones and others

// one of them, by the dice.
func pick[T any](roll func(int) int, l ...T) T {
	return l[roll(len(l))]
}

func someStatement(roll func(int) int, tenant string, period int) api.Statement {
	s := api.Statement{Tenant: tenant, Period: uint64(period), Used: pick(roll, amounts...), Cap: pick(roll, amounts...), Bits: pick(roll, prices...)}
	s.Due = dueOf(s.Used, s.Bits)
	switch roll(24) {
	case 0:
		s.Tenant = pick(roll, "b", "", "A")
	case 1:
		s.Period = pick(roll, amounts...)
	case 2:
		s.Due++
	case 3:
		s.Bits = pick(roll, append(noPrices, minusZero)...)
	}
	return s
}

func someAccount(roll func(int) int) api.Account {
	a := api.Account{Tenant: pick(roll, "a", "a", "a", "a", "a", "a", "b", "acme", "A", ""), Cap: pick(roll, amounts...), Used: pick(roll, amounts[:9]...), Bits: pick(roll, prices...)}
	if roll(6) == 0 {
		a.Used = pick(roll, amounts...)
	}
	if roll(6) == 0 {
		a.Bits = pick(roll, append(noPrices, minusZero)...)
	}
	id := uint64(0)
	for range max(0, roll(8)-3) {
		id += uint64(1 + roll(3))
		a.Leases = append(a.Leases, api.Lease{Id: id, Size: pick(roll, amounts[1:9]...)})
		switch roll(16) {
		case 0:
			a.Leases[roll(len(a.Leases))].Id = uint64(roll(6))
		case 1:
			a.Leases[roll(len(a.Leases))].Id = pick(roll, amounts...)
		case 2:
			a.Leases[roll(len(a.Leases))].Size = pick(roll, amounts...)
		}
	}
	for i := range roll(4) {
		a.Closed = append(a.Closed, someStatement(roll, a.Tenant, i))
	}
	a.Period = uint64(len(a.Closed))
	if roll(8) == 0 {
		a.Period = pick(roll, 0, 1, 2, 3, api.MaxPeriods-1, api.MaxPeriods, api.MaxPeriods+1, most)
	}
	return a
}

func someRecord(roll func(int) int, a api.Account) api.Record {
	r := pick(roll, capOf(pick(roll, amounts...)), priceOf(pick(roll, prices...)),
		reserve(uint64(roll(12)), pick(roll, amounts...)), reserve(uint64(roll(12)), roomOf(a)+uint64(roll(3))-1), reserve(pick(roll, amounts...), uint64(roll(5))),
		settle(uint64(roll(8)), uint64(roll(7))), settle(uint64(roll(8)), pick(roll, amounts...)), shut(), shut())
	if len(a.Leases) > 0 && r.Kind == api.RecSettle && roll(2) == 0 {
		l := pick(roll, a.Leases...)
		r.Lease, r.N = l.Id, l.Size+uint64(roll(3))-1
	}
	switch roll(24) {
	case 0:
		r.Kind = roll(8) - 1
	case 1:
		r.Tenant = pick(roll, "b", "acme", "A", "")
	case 2:
		r.Seq = 0
	case 3:
		r.Bits = pick(roll, append(noPrices, minusZero)...)
	case 4:
		r.Lease = uint64(roll(3))
	}
	return r
}

func TestManyAccounts(t *testing.T) {
	roll := dice()
	var told [20]int
	for range 200000 {
		a := someAccount(roll)
		told[holdAsSaid(t, a, someRecord(roll, a))]++
	}
	for _, err := range []api.Errno{api.OK, api.ErrKind, api.ErrName, api.ErrRange, api.ErrPrice, api.ErrForm, api.ErrThere, api.ErrQuota, api.ErrNone, api.ErrOrder, api.ErrLong} {
		if told[err] < 100 {
			t.Errorf("error %d was told %d times", err, told[err])
		}
	}
}

// P15.2: Right

func holdRight(t *testing.T, a api.Account, want bool) {
	t.Helper()
	in, changed := roomy(a)
	if got := acct.Right(in); got != want {
		t.Errorf("%s is right: %t", short(a), got)
	}
	if changed() {
		t.Errorf("%s was changed", short(a))
	}
}

func TestRight(t *testing.T) {
	for _, a := range rightOnes() {
		holdRight(t, a, true)
	}
	for _, a := range wrongOnes() {
		holdRight(t, a, false)
	}
	holdRight(t, api.Account{}, false)
}

func TestRightNames(t *testing.T) {
	for _, s := range names {
		holdRight(t, api.Account{Tenant: s}, true)
		holdRight(t, api.Account{Tenant: s, Period: 1, Closed: []api.Statement{{Tenant: s}}}, true)
		holdRight(t, api.Account{Tenant: s, Period: 1, Closed: []api.Statement{{Tenant: "b"}}}, false)
		holdRight(t, api.Account{Tenant: s, Period: 1, Closed: []api.Statement{{}}}, false)
		holdRight(t, api.Account{Tenant: s, Period: 2, Closed: []api.Statement{{Tenant: s}, {Tenant: s + "b", Period: 1}}}, false)
	}
	for _, s := range noNames {
		holdRight(t, api.Account{Tenant: s}, false)
		holdRight(t, api.Account{Tenant: s, Period: 1, Closed: []api.Statement{{Tenant: s}}}, false)
	}
}

func TestRightLeases(t *testing.T) {
	for _, l := range [][]api.Lease{nil, {}, leases(1, 1), leases(most, 1), leases(1, 1, 2, 1), leases(1, 9, 7, 3, most, 5), leases(2, 1, 3, 1, 4, 1, 5, 1)} {
		holdRight(t, api.Account{Tenant: "a", Leases: l}, true)
	}
	for _, l := range [][]api.Lease{
		leases(0, 1), leases(0, 0), leases(0, 1, 1, 1), leases(1, 1, 0, 1), leases(1, 1, 2, 1, 0, 1),
		leases(1, 1, 1, 1), leases(2, 1, 1, 1), leases(1, 1, 3, 1, 2, 1), leases(1, 1, 3, 1, 3, 1), leases(2, 1, 1, 1, 3, 1), leases(1, 1, 1, 1, 2, 1), leases(most, 1, 1, 1), leases(most, 1, most, 1),
		leases(1, 0), leases(1, 0, 2, 1), leases(1, 1, 2, 0), leases(1, 1, 2, 0, 3, 1), leases(most, 0),
	} {
		holdRight(t, api.Account{Tenant: "a", Cap: 50, Leases: l}, false)
	}
}

// Whether the use is cut off hangs on what was used and on each lease; the cap is nothing to it.
func TestRightUse(t *testing.T) {
	for _, n := range []uint64{0, 5, most} {
		for _, a := range []api.Account{
			{Tenant: "a", Used: most}, {Tenant: "a", Used: most - 1, Leases: leases(1, 1)}, {Tenant: "a", Leases: leases(1, most)}, {Tenant: "a", Used: 1 << 63, Leases: leases(1, 1<<63-1)},
			{Tenant: "a", Used: 1, Leases: leases(1, 1, 2, most-2)}, {Tenant: "a", Used: 1, Leases: leases(1, most-2, 2, 1)}, {Tenant: "a", Leases: leases(1, 1<<62, 2, 1<<62, 3, 1<<62, 4, 1<<62-1)},
		} {
			a.Cap = n
			holdRight(t, a, true)
			a.Used++
			holdRight(t, a, a.Used == 0 && len(a.Leases) == 0) // most goes round to 0
			a.Used--
			a.Leases = append(slices.Clone(a.Leases), api.Lease{Id: 9, Size: 1})
			holdRight(t, a, false)
			a.Leases = append(a.Leases, api.Lease{Id: 10, Size: most}, api.Lease{Id: 11, Size: 2}) // gone round more than once
			holdRight(t, a, false)
		}
	}
}

func TestRightPrices(t *testing.T) {
	closed := func(bits, due uint64) api.Account {
		return api.Account{Tenant: "a", Period: 1, Closed: []api.Statement{{Tenant: "a", Used: 5, Bits: bits, Due: due}}}
	}
	for _, bits := range prices {
		holdRight(t, api.Account{Tenant: "a", Used: 5, Bits: bits}, true)
		due := dueOf(5, bits)
		holdRight(t, closed(bits, due), true)
		holdRight(t, closed(bits, due+1), false)
		holdRight(t, closed(bits, due-1), false)
		holdRight(t, closed(bits, ^due), false)
	}
	for _, bits := range append([]uint64{minusZero}, noPrices...) {
		holdRight(t, api.Account{Tenant: "a", Used: 5, Bits: bits}, false)
		for _, due := range []uint64{0, 5, most} {
			holdRight(t, closed(bits, due), false)
		}
	}
}

// A statement's cap is nothing to what is right, and its price need not be the account's.
func TestRightStatements(t *testing.T) {
	for _, used := range amounts {
		for _, cap := range amounts {
			for _, bits := range []uint64{0, quarter, one, greatest} {
				a := api.Account{Tenant: "a", Bits: half, Period: 1, Closed: []api.Statement{{Tenant: "a", Used: used, Cap: cap, Bits: bits, Due: dueOf(used, bits)}}}
				holdRight(t, a, true)
			}
		}
	}
}

func TestRightPeriods(t *testing.T) {
	of := func(period uint64, periods ...uint64) api.Account {
		a := api.Account{Tenant: "a", Period: period}
		for _, n := range periods {
			a.Closed = append(a.Closed, api.Statement{Tenant: "a", Period: n})
		}
		return a
	}
	for _, a := range []api.Account{of(0), of(1, 0), of(2, 0, 1), of(3, 0, 1, 2), of(5, 0, 1, 2, 3, 4)} {
		holdRight(t, a, true)
	}
	for _, a := range []api.Account{
		of(1), of(2), of(most), of(0, 0), of(2, 0), of(1, 0, 1), of(0, 0, 1), of(3, 0, 1), of(1<<32+1, 0), of(1<<16+1, 0), of(257, 0),
		of(1, 1), of(1, most), of(2, 1, 0), of(2, 0, 0), of(2, 1, 1), of(2, 1, 2), of(2, 0, 2), of(3, 0, 2, 1), of(3, 0, 1, 1), of(3, 0, 1, 3), of(3, 2, 1, 0), of(2, 0, 1<<32+1),
	} {
		holdRight(t, a, false)
	}
}

func TestRightAtMostOfThePeriods(t *testing.T) {
	a := manyClosed(api.MaxPeriods)
	holdRight(t, a, true)
	for _, at := range []int{0, 1, 1 << 15, api.MaxPeriods - 1} {
		was := a.Closed[at]
		a.Closed[at].Due++
		holdRight(t, a, false)
		a.Closed[at] = was
		a.Closed[at].Period ^= 1
		holdRight(t, a, false)
		a.Closed[at] = was
	}
	holdRight(t, a, true)
	holdRight(t, manyClosed(api.MaxPeriods+1), false)
}

func TestRightOfManyAccounts(t *testing.T) {
	roll := dice()
	var told [2]int
	for range 200000 {
		a := someAccount(roll)
		is := isRight(a)
		holdRight(t, a, is)
		if is {
			told[1]++
		} else {
			told[0]++
		}
	}
	if min(told[0], told[1]) < 10000 {
		t.Errorf("%d accounts were right, %d were not", told[1], told[0])
	}
}

// P15.2: Clone and Same

// others are accounts that differ from one with two leases and two statements, each in one thing.
func others(a api.Account) []api.Account {
	var l []api.Account
	add := func(change func(b *api.Account)) {
		b := a
		b.Leases, b.Closed = slices.Clone(a.Leases), slices.Clone(a.Closed)
		change(&b)
		l = append(l, b)
	}
	add(func(b *api.Account) { b.Tenant += "b" })
	add(func(b *api.Account) { b.Tenant = "" })
	add(func(b *api.Account) { b.Cap++ })
	add(func(b *api.Account) { b.Used++ })
	add(func(b *api.Account) { b.Bits ^= minusZero })
	add(func(b *api.Account) { b.Bits ^= 1 })
	add(func(b *api.Account) { b.Period ^= 1 << 40 })
	add(func(b *api.Account) { b.Leases = nil })
	add(func(b *api.Account) { b.Leases = b.Leases[:1] })
	add(func(b *api.Account) { b.Leases = b.Leases[1:] })
	add(func(b *api.Account) { b.Leases = append(b.Leases, api.Lease{}) })
	add(func(b *api.Account) { slices.Reverse(b.Leases) })
	add(func(b *api.Account) { b.Closed = nil })
	add(func(b *api.Account) { b.Closed = b.Closed[:1] })
	add(func(b *api.Account) { b.Closed = b.Closed[1:] })
	add(func(b *api.Account) { b.Closed = append(b.Closed, api.Statement{}) })
	add(func(b *api.Account) { slices.Reverse(b.Closed) })
	for i := range 2 {
		add(func(b *api.Account) { b.Leases[i].Id++ })
		add(func(b *api.Account) { b.Leases[i].Size++ })
		add(func(b *api.Account) { b.Closed[i].Tenant += "b" })
		add(func(b *api.Account) { b.Closed[i].Period++ })
		add(func(b *api.Account) { b.Closed[i].Used++ })
		add(func(b *api.Account) { b.Closed[i].Cap++ })
		add(func(b *api.Account) { b.Closed[i].Bits ^= minusZero })
		add(func(b *api.Account) { b.Closed[i].Due++ })
	}
	return l
}

var full = api.Account{
	Tenant: "a", Cap: 20, Used: 3, Bits: 0, Period: 2, Leases: leases(4, 5, 6, 7),
	Closed: []api.Statement{{Tenant: "a", Used: 5, Cap: 10, Bits: half, Due: 2}, {Tenant: "a", Period: 1, Used: 8, Cap: 9}},
}

func holdSame(t *testing.T, a, b api.Account, want bool) {
	t.Helper()
	x, xChanged := roomy(a)
	y, yChanged := roomy(b)
	if acct.Same(x, y) != want || acct.Same(y, x) != want {
		t.Errorf("%s and %s are the same: %t, %t", short(a), short(b), acct.Same(x, y), acct.Same(y, x))
	}
	if xChanged() || yChanged() {
		t.Errorf("%s or %s was changed", short(a), short(b))
	}
}

func TestSame(t *testing.T) {
	l := append(others(full), full)
	for i, a := range l {
		for k, b := range l {
			holdSame(t, a, b, i == k)
		}
	}
	for _, a := range append(rightOnes(), wrongOnes()...) {
		holdSame(t, a, a, true)
		holdSame(t, a, full, false)
		a.Tenant, a.Closed = "z", nil
		holdSame(t, a, full, false)
	}
}

// Prices that are not a number are the same by their bits, and zeros with and without a sign are not.
func TestSamePrices(t *testing.T) {
	for _, x := range append(append([]uint64{minusZero}, prices...), noPrices...) {
		for _, y := range append(append([]uint64{minusZero}, prices...), noPrices...) {
			holdSame(t, api.Account{Bits: x}, api.Account{Bits: y}, x == y)
			holdSame(t, api.Account{Closed: []api.Statement{{Bits: x}}}, api.Account{Closed: []api.Statement{{Bits: y}}}, x == y)
		}
	}
}

func TestListsThatAreNilAreTheSameAsEmptyOnes(t *testing.T) {
	empty := api.Account{Tenant: "a", Leases: []api.Lease{}, Closed: []api.Statement{}}
	for _, b := range []api.Account{{Tenant: "a"}, {Tenant: "a", Leases: []api.Lease{}}, {Tenant: "a", Closed: []api.Statement{}}, empty} {
		if !acct.Same(empty, b) || !acct.Same(b, empty) {
			t.Errorf("%#v is not the same", b)
		}
	}
}

func TestClone(t *testing.T) {
	l := append(append(rightOnes(), wrongOnes()...), others(full)...)
	for _, a := range append(l, full, api.Account{}, api.Account{Leases: []api.Lease{}, Closed: []api.Statement{}}) {
		in, changed := roomy(a)
		got := acct.Clone(in)
		if !isSame(got, a) || !acct.Same(got, a) {
			t.Errorf("%s became %s", short(a), short(got))
		}
		_ = append(got.Leases, api.Lease{Id: 60})
		_ = append(got.Closed, api.Statement{Due: 61})
		scribble(got)
		if changed() {
			t.Errorf("a clone of %s shares memory with it", short(a))
		}
		other := acct.Clone(a)
		scribble(in)
		if !isSame(other, a) {
			t.Errorf("%s became %s, when another one was changed", short(a), short(other))
		}
	}
}

// P15.3

// everUsed is the sum of all that was used, in all periods.
func everUsed(a api.Account) *big.Int {
	n := whole(a.Used)
	for _, s := range a.Closed {
		n.Add(n, whole(s.Used))
	}
	return n
}

// holdFollows is what follows of one record that may come.
func holdFollows(t *testing.T, before api.Account, r api.Record, after api.Account) {
	t.Helper()
	if acct.Right(before) && !acct.Right(after) {
		t.Errorf("%s is not right any more behind %+v: %s", short(before), r, short(after))
	}
	if r.Kind == api.RecReserve && acct.Use(after) > after.Cap {
		t.Errorf("behind %+v the use of %s is above its cap", r, short(after))
	}
	if r.Kind == api.RecSettle && acct.Use(after) > acct.Use(before) {
		t.Errorf("%+v raised the use of %s", r, short(before))
	}
	if r.Kind == api.RecClose && everUsed(before).Cmp(everUsed(after)) != 0 {
		t.Errorf("%+v changed what was ever used of %s", r, short(before))
	}
}

// nextRecord is one that mostly may come to an account.
func nextRecord(roll func(int) int, a api.Account) api.Record {
	top := uint64(0)
	for _, l := range a.Leases {
		top = max(top, l.Id)
	}
	switch n := roll(20); {
	case n == 0:
		return capOf(pick(roll, 0, 10, 50, 100, 1000, most))
	case n == 1:
		return priceOf(pick(roll, prices...))
	case n < 10:
		size := uint64(1 + roll(24))
		if room := roomOf(a); roll(8) == 0 && room < most {
			size = room + uint64(roll(2))
		}
		return reserve(top+uint64(roll(3)), size)
	case n < 18 && len(a.Leases) > 0:
		l := pick(roll, a.Leases...)
		return settle(l.Id, l.Size-min(l.Size, uint64(roll(25)))+uint64(roll(20)/19))
	}
	return shut()
}

func TestManyHistories(t *testing.T) {
	roll := dice()
	for range 400 {
		a := api.Account{Tenant: "a"}
		settled := new(big.Int)
		for range 150 {
			r := nextRecord(roll, a)
			err := check(a, r)
			if err != api.OK {
				holdRefused(t, a, r, err)
				continue
			}
			next := holdApplied(t, a, r, behind(a, r))
			holdFollows(t, a, r, next)
			if r.Kind == api.RecSettle {
				settled.Add(settled, whole(r.N))
			}
			a = next
		}
		holdRight(t, a, true)
		if settled.Cmp(everUsed(a)) != 0 {
			t.Errorf("%d were settled of %s", settled, short(a))
		}
	}
}

func TestWhatFollowsOfManyAccounts(t *testing.T) {
	roll := dice()
	for range 200000 {
		a := someAccount(roll)
		r := someRecord(roll, a)
		if after, err := acct.Apply(a, r); err == api.OK {
			holdFollows(t, a, r, after)
		}
	}
}

// Of two answers to the same question one is not changed by what is done to the other.
func TestAnswersAreApart(t *testing.T) {
	a := full
	a.Leases, a.Closed = slices.Clone(full.Leases), slices.Clone(full.Closed)
	for _, r := range []api.Record{capOf(1), priceOf(one), reserve(9, 1), settle(4, 5), settle(6, 0)} {
		first, second := apply(t, a, r), apply(t, a, r)
		scribble(second)
		if !isSame(first, behind(full, r)) || !isSame(a, full) {
			t.Errorf("%+v: %s, behind a change of another answer", r, short(first))
		}
	}
	a.Leases = nil
	first, second := apply(t, a, shut()), apply(t, a, shut())
	scribble(second)
	if len(first.Closed) != 3 || !slices.Equal(first.Closed[:2], full.Closed) || first.Closed[2].Tenant != "a" {
		t.Errorf("%s, behind a change of another answer", short(first))
	}
}
