package tests

import (
	"math"
	"math/big"
	"testing"

	"loop.example/g00699/impl"
)

// bigOf is the document's definition of a Wide: Hi * 2^64 + Lo.
func bigOf(a impl.Wide) *big.Int {
	value := new(big.Int).Lsh(big.NewInt(int64(a.Hi)), 64)
	return value.Add(value, new(big.Int).SetUint64(a.Lo))
}

// wideFrom reduces a number modulo 2^128 to the range of a Wide.
func wideFrom(value *big.Int) impl.Wide {
	size := new(big.Int).Lsh(big.NewInt(1), 128)
	rest := new(big.Int).Mod(value, size)
	high := new(big.Int).Rsh(rest, 64).Uint64()
	low := new(big.Int).And(rest, new(big.Int).SetUint64(math.MaxUint64)).Uint64()
	return impl.Wide{Hi: int(high), Lo: low}
}

func bigText(t *testing.T, s string) *big.Int {
	t.Helper()
	value, ok := new(big.Int).SetString(s, 10)
	if !ok {
		t.Fatal(s)
	}
	return value
}

func leastWide() impl.Wide { return impl.Wide{Hi: math.MinInt} }

func greatestWide() impl.Wide { return impl.Wide{Hi: math.MaxInt, Lo: math.MaxUint64} }

func someInts() []int {
	list := []int{}
	for n := -12; n <= 12; n++ {
		list = append(list, n)
	}
	for _, n := range []int{99, 100, 101, 999999, 1000000, 1000001, 1 << 31, 1 << 32, 1 << 62, math.MaxInt - 1, math.MaxInt} {
		list = append(list, n, -n)
	}
	return append(list, math.MinInt, math.MinInt+1)
}

// someWides has every pair of halves near a limit, and others that a fixed rule spreads over all sizes.
func someWides() []impl.Wide {
	highs := []int{math.MinInt, math.MinInt + 1, -1000001, -2, -1, 0, 1, 2, 1000000, 1 << 32, math.MaxInt - 1, math.MaxInt}
	lows := []uint64{0, 1, 2, 9, 10, 1 << 32, 1<<63 - 1, 1 << 63, 1<<63 + 1, math.MaxUint64 - 1, math.MaxUint64}
	list := []impl.Wide{}
	for _, hi := range highs {
		for _, lo := range lows {
			list = append(list, impl.Wide{Hi: hi, Lo: lo})
		}
	}
	for _, n := range someInts() {
		list = append(list, wideFrom(big.NewInt(int64(n))))
	}
	seed := uint64(1)
	next := func() uint64 {
		seed ^= seed << 13
		seed ^= seed >> 7
		seed ^= seed << 17
		return seed
	}
	for i := 0; i < 120; i++ {
		value := new(big.Int).Lsh(big.NewInt(int64(next())), 64)
		value.Add(value, new(big.Int).SetUint64(next()))
		list = append(list, wideFrom(value.Rsh(value, uint(i))))
	}
	return list
}

func TestWideOf(t *testing.T) {
	for _, n := range someInts() {
		if got := impl.WideOf(n); got != wideFrom(big.NewInt(int64(n))) || bigOf(got).Cmp(big.NewInt(int64(n))) != 0 {
			t.Fatalf("WideOf(%d) = %v", n, got)
		}
	}
	if impl.WideOf(math.MinInt) != (impl.Wide{Hi: -1, Lo: 1 << 63}) || impl.WideOf(math.MaxInt) != (impl.Wide{Lo: 1<<63 - 1}) || impl.WideOf(0) != (impl.Wide{}) {
		t.Fatal("limits of int")
	}
}

func TestP4AddAndSubtract(t *testing.T) {
	list := someWides()
	for _, a := range list {
		if got := impl.WideNeg(a); got != wideFrom(new(big.Int).Neg(bigOf(a))) || impl.WideNeg(got) != a || impl.WideAdd(a, got) != (impl.Wide{}) {
			t.Fatalf("WideNeg(%v) = %v", a, got)
		}
		if impl.WideAdd(a, impl.WideOf(0)) != a {
			t.Fatalf("%v and 0", a)
		}
		for _, b := range list {
			sum := impl.WideAdd(a, b)
			if sum != wideFrom(new(big.Int).Add(bigOf(a), bigOf(b))) || sum != impl.WideAdd(b, a) {
				t.Fatalf("WideAdd(%v, %v) = %v", a, b, sum)
			}
			if impl.WideAdd(sum, impl.WideNeg(b)) != a || impl.WideAdd(impl.WideAdd(a, impl.WideNeg(b)), b) != a {
				t.Fatalf("%v is not restored after %v", a, b)
			}
		}
	}
}

func TestWideWrapsModulo(t *testing.T) {
	one, back := impl.WideOf(1), impl.WideOf(-1)
	if impl.WideAdd(greatestWide(), one) != leastWide() || impl.WideAdd(leastWide(), back) != greatestWide() {
		t.Fatal("one beyond the limits")
	}
	if impl.WideAdd(leastWide(), leastWide()) != (impl.Wide{}) || impl.WideAdd(greatestWide(), greatestWide()) != impl.WideOf(-2) {
		t.Fatal("limits twice")
	}
	if impl.WideNeg(leastWide()) != leastWide() || impl.WideNeg(greatestWide()) != impl.WideAdd(leastWide(), one) || impl.WideAdd(leastWide(), greatestWide()) != back {
		t.Fatal("negated limits")
	}
	if impl.WideNeg(impl.Wide{}) != (impl.Wide{}) || impl.WideNeg(impl.Wide{Hi: 1}) != (impl.Wide{Hi: -1}) || impl.WideNeg(impl.Wide{Hi: -1}) != (impl.Wide{Hi: 1}) {
		t.Fatal("a lower half of 0")
	}
}

func TestWideCmp(t *testing.T) {
	list := someWides()
	for _, a := range list {
		for _, b := range list {
			if got := impl.WideCmp(a, b); got != bigOf(a).Cmp(bigOf(b)) {
				t.Fatalf("WideCmp(%v, %v) = %d", a, b, got)
			}
		}
	}
	if impl.WideCmp(leastWide(), greatestWide()) != -1 || impl.WideCmp(greatestWide(), leastWide()) != 1 || impl.WideCmp(leastWide(), leastWide()) != 0 {
		t.Fatal("limits")
	}
	// Lower halves are compared without a sign, upper ones with it.
	if impl.WideCmp(impl.Wide{Lo: 1 << 63}, impl.Wide{Lo: 1}) != 1 || impl.WideCmp(impl.Wide{Hi: -1, Lo: 1 << 63}, impl.Wide{Hi: -1, Lo: 1}) != 1 || impl.WideCmp(impl.Wide{Hi: -1, Lo: math.MaxUint64}, impl.Wide{}) != -1 {
		t.Fatal("halves")
	}
}

func TestP4IntsAreRecovered(t *testing.T) {
	for _, n := range someInts() {
		if got, ok := impl.WideInt(impl.WideOf(n)); !ok || got != n {
			t.Fatalf("WideInt of %d = %d, %v", n, got, ok)
		}
	}
	for _, a := range someWides() {
		value := bigOf(a)
		want := 0
		if value.IsInt64() {
			want = int(value.Int64())
		}
		if got, ok := impl.WideInt(a); ok != value.IsInt64() || got != want {
			t.Fatalf("WideInt(%v) = %d, %v", a, got, ok)
		}
	}
}

func TestWideIntBeyondInt(t *testing.T) {
	above := impl.WideAdd(impl.WideOf(math.MaxInt), impl.WideOf(1))
	below := impl.WideAdd(impl.WideOf(math.MinInt), impl.WideOf(-1))
	for _, a := range []impl.Wide{above, below, leastWide(), greatestWide(), {Hi: 1}, {Hi: 1, Lo: 7}, {Hi: -1}, {Hi: -1, Lo: 7}, {Hi: -2, Lo: math.MaxUint64}, {Lo: math.MaxUint64}} {
		if n, ok := impl.WideInt(a); ok || n != 0 {
			t.Fatalf("WideInt(%v) = %d, %v", a, n, ok)
		}
	}
}

// checkMean compares a mean with its definition: the greatest m with n * m <= a.
func checkMean(t *testing.T, a impl.Wide, n int) {
	t.Helper()
	// Div of package big rounds down for a positive divisor.
	m := new(big.Int).Div(bigOf(a), big.NewInt(int64(n)))
	size := big.NewInt(int64(n))
	if new(big.Int).Mul(size, m).Cmp(bigOf(a)) > 0 || new(big.Int).Mul(size, new(big.Int).Add(m, big.NewInt(1))).Cmp(bigOf(a)) <= 0 {
		t.Fatalf("%v is not the greatest", m)
	}
	want := 0
	if m.IsInt64() {
		want = int(m.Int64())
	}
	if got, ok := impl.WideMean(a, n); ok != m.IsInt64() || got != want {
		t.Fatalf("WideMean(%v, %d) = %d, %v, not %v", a, n, got, ok, m)
	}
}

func someCounts() []int {
	return []int{1, 2, 3, 4, 5, 7, 10, 16, 255, 256, 1000, 65536, 524288, 999983, 999999, 1000000}
}

func TestP4MeanIsTheGreatest(t *testing.T) {
	for n := 1; n <= 13; n++ {
		for a := -60; a <= 60; a++ {
			m, ok := impl.WideMean(impl.WideOf(a), n)
			if !ok || n*m > a || n*(m+1) <= a {
				t.Fatalf("WideMean of %d and %d = %d, %v", a, n, m, ok)
			}
		}
	}
	for _, n := range someCounts() {
		for _, a := range someWides() {
			checkMean(t, a, n)
		}
	}
}

func TestP4MeanAtTheLimitsOfInt(t *testing.T) {
	for _, n := range someCounts() {
		size := big.NewInt(int64(n))
		low := new(big.Int).Mul(size, big.NewInt(math.MinInt))
		high := new(big.Int).Mul(size, bigText(t, "9223372036854775808"))
		high.Sub(high, big.NewInt(1))
		for shift := int64(-2); shift <= 2; shift++ {
			checkMean(t, wideFrom(new(big.Int).Add(low, big.NewInt(shift))), n)
			checkMean(t, wideFrom(new(big.Int).Add(high, big.NewInt(shift))), n)
		}
		least, ok := impl.WideMean(wideFrom(low), n)
		greatest, fine := impl.WideMean(wideFrom(high), n)
		if !ok || !fine || least != math.MinInt || greatest != math.MaxInt {
			t.Fatal(n, least, ok, greatest, fine)
		}
		refuseMean(t, wideFrom(low.Sub(low, big.NewInt(1))), n)
		refuseMean(t, wideFrom(high.Add(high, big.NewInt(1))), n)
		refuseMean(t, leastWide(), n)
		refuseMean(t, greatestWide(), n)
	}
}

func refuseMean(t *testing.T, a impl.Wide, n int) {
	t.Helper()
	if m, ok := impl.WideMean(a, n); ok || m != 0 {
		t.Fatalf("WideMean(%v, %d) = %d, %v", a, n, m, ok)
	}
}

func TestWideMeanCounts(t *testing.T) {
	for _, a := range []int{-2000000, -7, -1, 0, 1, 7, 2000000} {
		for _, n := range []int{0, -1, -2, -1000000, 1000001, 1 << 32, math.MaxInt, math.MinInt} {
			refuseMean(t, impl.WideOf(a), n)
		}
		if m, ok := impl.WideMean(impl.WideOf(a), 1); !ok || m != a {
			t.Fatal(a, m, ok)
		}
	}
	for a, want := range map[int]int{-1000001: -2, -1000000: -1, -999999: -1, -1: -1, 0: 0, 999999: 0, 1000000: 1} {
		if m, ok := impl.WideMean(impl.WideOf(a), 1000000); !ok || m != want {
			t.Fatal(a, m, ok)
		}
	}
	refuseMean(t, leastWide(), 0)
	refuseMean(t, greatestWide(), 1000001)
}

func TestWideText(t *testing.T) {
	for _, a := range someWides() {
		if got := impl.WideText(a); got != bigOf(a).String() {
			t.Fatalf("WideText(%v) = %q", a, got)
		}
	}
	power := big.NewInt(1)
	for power.BitLen() < 128 {
		for _, shift := range []int64{-1, 0, 1} {
			value := new(big.Int).Add(power, big.NewInt(shift))
			minus := new(big.Int).Neg(value)
			if impl.WideText(wideFrom(value)) != value.String() || impl.WideText(wideFrom(minus)) != minus.String() {
				t.Fatal(value)
			}
		}
		power.Mul(power, big.NewInt(10))
	}
}

func TestWideTextLimits(t *testing.T) {
	for text, a := range map[string]impl.Wide{
		"0":  {},
		"-1": {Hi: -1, Lo: math.MaxUint64},
		"-170141183460469231731687303715884105728": leastWide(),
		"-170141183460469231731687303715884105727": {Hi: math.MinInt, Lo: 1},
		"170141183460469231731687303715884105727":  greatestWide(),
		"18446744073709551615":                     {Lo: math.MaxUint64},
		"18446744073709551616":                     {Hi: 1},
		"-18446744073709551616":                    {Hi: -1},
		"9223372036854775807":                      impl.WideOf(math.MaxInt),
		"-9223372036854775808":                     impl.WideOf(math.MinInt),
	} {
		if got := impl.WideText(a); got != text {
			t.Fatalf("WideText(%v) = %q, not %q", a, got, text)
		}
	}
}

func TestWideDocumentExamples(t *testing.T) {
	if m, ok := impl.WideMean(impl.WideOf(-7), 2); !ok || m != -4 {
		t.Fatal(m, ok)
	}
	sum := impl.WideAdd(impl.WideOf(9223372036854775807), impl.WideOf(1))
	if got := impl.WideText(sum); got != "9223372036854775808" {
		t.Fatal(got)
	}
}
