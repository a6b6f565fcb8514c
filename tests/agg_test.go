package tests

import (
	"math"
	"math/big"
	"slices"
	"testing"

	"loop.example/g00699/impl"
)

// plainDown returns the numbers in descending order.
func plainDown(list []int) []int {
	sorted := slices.Sorted(slices.Values(list))
	slices.Reverse(sorted)
	return sorted
}

func plainSum(list []int) *big.Int {
	sum := new(big.Int)
	for _, v := range list {
		sum.Add(sum, big.NewInt(int64(v)))
	}
	return sum
}

func plainAgg(list []int) impl.Agg {
	if len(list) == 0 || len(list) > 1000000 {
		return impl.Agg{}
	}
	down := plainDown(list)
	return impl.Agg{N: len(list), Sum: wideFrom(plainSum(list)), Min: down[len(down)-1], Max: down[0], Top: slices.Clone(down[:min(4, len(down))])}
}

func plainKind(kind int, k int) bool {
	return kind >= 1 && kind <= 5 && k == 0 || kind == 6 && k >= 1 && k <= 4
}

// plainDone evaluates a list of 1 to MaxCount numbers, without its aggregate.
func plainDone(kind int, k int, list []int) ([]int, bool) {
	down, sum := plainDown(list), plainSum(list)
	switch {
	case !plainKind(kind, k):
		return nil, false
	case kind == 1:
		return []int{len(list)}, false
	case kind == 2 && !sum.IsInt64():
		return nil, true
	case kind == 2:
		return []int{int(sum.Int64())}, false
	case kind == 3:
		return []int{down[len(down)-1]}, false
	case kind == 4:
		return []int{down[0]}, false
	case kind == 5:
		// Div of package big rounds down for a positive divisor.
		return []int{int(new(big.Int).Div(sum, big.NewInt(int64(len(list)))).Int64())}, false
	}
	return down[:min(k, len(down))], false
}

func sameAgg(a impl.Agg, b impl.Agg) bool {
	return a.N == b.N && a.Sum == b.Sum && a.Min == b.Min && a.Max == b.Max && slices.Equal(a.Top, b.Top)
}

func copyAgg(a impl.Agg) impl.Agg {
	a.Top = slices.Clone(a.Top)
	return a
}

// short cuts a list for a message.
func short(list []int) []int { return list[:min(len(list), 20)] }

func checkAgg(t *testing.T, list []int) impl.Agg {
	t.Helper()
	kept := slices.Clone(list)
	got, want := impl.AggOf(list), plainAgg(list)
	if !sameAgg(got, want) {
		t.Fatalf("AggOf of %d numbers %v = %v, not %v", len(list), short(list), got, want)
	}
	if !impl.AggOk(got) {
		t.Fatalf("%v of %d numbers %v is not valid", got, len(list), short(list))
	}
	if !slices.Equal(list, kept) {
		t.Fatalf("the argument %v is changed to %v", short(kept), short(list))
	}
	return got
}

// checkPair checks that the join of the aggregates of two lists is the aggregate of both.
func checkPair(t *testing.T, a []int, b []int) impl.Agg {
	t.Helper()
	left, right := impl.AggOf(a), impl.AggOf(b)
	keptLeft, keptRight := copyAgg(left), copyAgg(right)
	want := plainAgg(slices.Concat(a, b))
	got, ok := impl.AggJoin(left, right)
	if !ok || !sameAgg(got, want) {
		t.Fatalf("AggJoin(%v, %v) = %v and %v, not %v", left, right, got, ok, want)
	}
	if !sameAgg(left, keptLeft) || !sameAgg(right, keptRight) {
		t.Fatalf("the arguments %v and %v are changed to %v and %v", keptLeft, keptRight, left, right)
	}
	if !impl.AggOk(got) {
		t.Fatalf("%v is not valid", got)
	}
	return got
}

func refuseJoin(t *testing.T, a impl.Agg, b impl.Agg) {
	t.Helper()
	keptA, keptB := copyAgg(a), copyAgg(b)
	if got, ok := impl.AggJoin(a, b); ok || !sameAgg(got, impl.Agg{}) {
		t.Fatalf("AggJoin(%v, %v) = %v and %v", a, b, got, ok)
	}
	if !sameAgg(a, keptA) || !sameAgg(b, keptB) {
		t.Fatalf("the arguments %v and %v are changed to %v and %v", keptA, keptB, a, b)
	}
}

func mustJoinAgg(t *testing.T, a impl.Agg, b impl.Agg) impl.Agg {
	t.Helper()
	got, ok := impl.AggJoin(a, b)
	if !ok {
		t.Fatalf("%v is not joined to %v", b, a)
	}
	return got
}

// checkDone compares one evaluation of a list of numbers.
func checkDone(t *testing.T, kind int, k int, list []int) ([]int, bool) {
	t.Helper()
	a := impl.AggOf(list)
	kept := copyAgg(a)
	want, wantOver := plainDone(kind, k, list)
	got, over := impl.AggDone(kind, k, a)
	if over != wantOver || !slices.Equal(got, want) {
		t.Fatalf("AggDone(%d, %d) of %d numbers %v = %v and %v, not %v and %v", kind, k, len(list), short(list), got, over, want, wantOver)
	}
	if !sameAgg(a, kept) {
		t.Fatalf("the argument %v is changed to %v", kept, a)
	}
	return got, over
}

func checkEveryDone(t *testing.T, list []int) {
	t.Helper()
	for kind := 0; kind <= 7; kind++ {
		for k := -1; k <= 5; k++ {
			checkDone(t, kind, k, list)
		}
	}
	checkMeanBetween(t, list)
}

// checkMeanBetween checks the second half of promise 9 without the reference above.
func checkMeanBetween(t *testing.T, list []int) {
	t.Helper()
	a := impl.AggOf(list)
	mean, over := impl.AggDone(impl.AggMean, 0, a)
	least, _ := impl.AggDone(impl.AggMin, 0, a)
	greatest, _ := impl.AggDone(impl.AggMax, 0, a)
	if over || len(mean) != 1 || len(least) != 1 || len(greatest) != 1 || mean[0] < least[0] || mean[0] > greatest[0] {
		t.Fatalf("%v: the mean %v is not between %v and %v", a, mean, least, greatest)
	}
	n, m, sum := big.NewInt(int64(len(list))), big.NewInt(int64(mean[0])), plainSum(list)
	next := new(big.Int).Add(m, big.NewInt(1))
	if new(big.Int).Mul(n, m).Cmp(sum) > 0 || next.Mul(n, next).Cmp(sum) <= 0 {
		t.Fatalf("%v: the mean %v is not the greatest", a, mean)
	}
}

// refuseAgg checks what every function answers for an aggregate of no list.
func refuseAgg(t *testing.T, a impl.Agg) {
	t.Helper()
	kept := copyAgg(a)
	if impl.AggOk(a) {
		t.Fatalf("%v is valid", a)
	}
	for _, other := range []impl.Agg{{}, impl.AggOf([]int{3}), impl.AggOf([]int{5, 5, -2, 9, 1}), a} {
		refuseJoin(t, a, other)
		refuseJoin(t, other, a)
	}
	for kind := 0; kind <= 7; kind++ {
		for k := -1; k <= 5; k++ {
			if got, over := impl.AggDone(kind, k, a); over || len(got) > 0 {
				t.Fatalf("AggDone(%d, %d) of %v = %v and %v", kind, k, a, got, over)
			}
		}
	}
	if !sameAgg(a, kept) {
		t.Fatalf("the argument %v is changed to %v", kept, a)
	}
}

// everyList calls use with all lists of at most so many of these values, in every order.
func everyList(values []int, most int, use func(list []int)) {
	list := []int{}
	var grow func()
	grow = func() {
		use(slices.Clone(list))
		if len(list) == most {
			return
		}
		for _, v := range values {
			list = append(list, v)
			grow()
			list = list[:len(list)-1]
		}
	}
	grow()
}

// everyBag calls use with all lists of at most so many of these values, each in one order only.
func everyBag(values []int, most int, use func(list []int)) {
	list := []int{}
	var grow func(from int)
	grow = func(from int) {
		use(slices.Clone(list))
		if len(list) == most {
			return
		}
		for i := from; i < len(values); i++ {
			list = append(list, values[i])
			grow(i)
			list = list[:len(list)-1]
		}
	}
	grow(0)
}

// drawNumber returns a number of any size, often one near the limits of int.
func drawNumber(draw func(n int) int) int {
	switch draw(5) {
	case 0:
		return math.MaxInt - draw(3)
	case 1:
		return math.MinInt + draw(3)
	case 2:
		return draw(2001) - 1000
	}
	n := draw(1<<15)<<45 | draw(1<<15)<<30 | draw(1<<15)<<15 | draw(1<<15)
	return (n - 1<<59) >> draw(60)
}

func drawList(draw func(n int) int, size int) []int {
	list := []int{}
	for range size {
		list = append(list, drawNumber(draw))
	}
	return list
}

func limitsOfInt() []int {
	return []int{math.MinInt, math.MinInt + 1, -1, 0, 1, math.MaxInt - 1, math.MaxInt}
}

func TestAggLimits(t *testing.T) {
	if impl.MaxTop != 4 || impl.MaxCount != 1000000 || impl.AggCount != 1 || impl.AggSum != 2 || impl.AggMin != 3 || impl.AggMax != 4 || impl.AggMean != 5 || impl.AggTop != 6 {
		t.Fatal("limits")
	}
}

func TestAggDocumentExample(t *testing.T) {
	a := impl.AggOf([]int{3, 1, 2, 5, 4})
	if !sameAgg(a, impl.Agg{N: 5, Sum: impl.WideOf(15), Min: 1, Max: 5, Top: []int{5, 4, 3, 2}}) || !impl.AggOk(a) {
		t.Fatal(a)
	}
}

func TestAggOfNothing(t *testing.T) {
	for _, list := range [][]int{nil, {}} {
		if got := checkAgg(t, list); !sameAgg(got, impl.Agg{}) {
			t.Fatal(got)
		}
	}
	empty := impl.Agg{Top: []int{}}
	if !impl.AggOk(impl.Agg{}) || !impl.AggOk(empty) {
		t.Fatal("the empty aggregate is not valid")
	}
	if got := mustJoinAgg(t, impl.Agg{}, empty); !sameAgg(got, impl.Agg{}) {
		t.Fatal(got)
	}
	for _, kind := range numbersAround(1, 6) {
		for _, k := range numbersAround(0, 4) {
			if got, over := impl.AggDone(kind, k, empty); over || len(got) > 0 {
				t.Fatalf("AggDone(%d, %d) = %v and %v", kind, k, got, over)
			}
		}
	}
}

func TestAggOfOneNumber(t *testing.T) {
	for _, v := range someInts() {
		a := checkAgg(t, []int{v})
		if !sameAgg(a, impl.Agg{N: 1, Sum: impl.WideOf(v), Min: v, Max: v, Top: []int{v}}) {
			t.Fatal(a)
		}
		checkEveryDone(t, []int{v})
		for _, kind := range []int{impl.AggSum, impl.AggMin, impl.AggMax, impl.AggMean} {
			if got, over := impl.AggDone(kind, 0, a); over || !slices.Equal(got, []int{v}) {
				t.Fatalf("the kind %d of %d: %v and %v", kind, v, got, over)
			}
		}
	}
}

func TestAggOfNumbersAroundMaxTop(t *testing.T) {
	for _, c := range []struct{ list, top []int }{
		{[]int{2, 9, 4}, []int{9, 4, 2}},
		{[]int{2, 9, 4, 7}, []int{9, 7, 4, 2}},
		{[]int{2, 9, 4, 7, 3}, []int{9, 7, 4, 3}},
		{[]int{2, 9, 4, 7, 1}, []int{9, 7, 4, 2}},
		{[]int{2, 9, 4, 7, 2}, []int{9, 7, 4, 2}},
		{[]int{2, 9, 4, 7, 20}, []int{20, 9, 7, 4}},
		{[]int{1, 2, 3, 4, 5, 6}, []int{6, 5, 4, 3}},
		{[]int{6, 5, 4, 3, 2, 1}, []int{6, 5, 4, 3}},
		{[]int{5, 5, 5}, []int{5, 5, 5}},
		{[]int{5, 5, 5, 5}, []int{5, 5, 5, 5}},
		{[]int{5, 5, 5, 5, 5}, []int{5, 5, 5, 5}},
		{[]int{5, 6, 5, 6, 5, 6}, []int{6, 6, 6, 5}},
		{[]int{-5, -6, -7, -8, -9}, []int{-5, -6, -7, -8}},
		{[]int{-5, 0, -7}, []int{0, -5, -7}},
	} {
		if a := checkAgg(t, c.list); !slices.Equal(a.Top, c.top) {
			t.Fatalf("%v has the top %v", c.list, a.Top)
		}
		checkEveryDone(t, c.list)
	}
}

func TestAggOfEveryShortList(t *testing.T) {
	everyList([]int{-2, 0, 1, 3}, 6, func(list []int) { checkAgg(t, list) })
	everyList(limitsOfInt(), 4, func(list []int) { checkAgg(t, list) })
}

func TestAggOfLongLists(t *testing.T) {
	draw := draws()
	for range 300 {
		list := drawList(draw, 1+draw(400))
		checkAgg(t, list)
		checkEveryDone(t, list)
	}
}

func TestAggOfMaxCountNumbers(t *testing.T) {
	list := []int{}
	for i := range 1000001 {
		list = append(list, i*7919%1000003-500000)
	}
	a := checkAgg(t, list[:1000000])
	if a.N != impl.MaxCount || !impl.AggOk(a) {
		t.Fatal(a)
	}
	if got := impl.AggOf(list); !sameAgg(got, impl.Agg{}) {
		t.Fatalf("AggOf of one number more than MaxCount is %v", got)
	}
	if got := checkAgg(t, list[1:]); got.N != impl.MaxCount {
		t.Fatal(got)
	}
	for _, kind := range []int{1, 2, 3, 4, 5} {
		checkDone(t, kind, 0, list[:1000000])
	}
	checkDone(t, impl.AggTop, 4, list[:1000000])
}

// What one key says of an aggregate; five numbers of Top are enough for a candidate.
type aggKey struct {
	n, least, greatest, size int
	sum                      impl.Wide
	top                      [5]int
}

func keyOf(a impl.Agg) aggKey {
	key := aggKey{n: a.N, least: a.Min, greatest: a.Max, size: len(a.Top), sum: a.Sum}
	copy(key.top[:], a.Top)
	return key
}

// Every aggregate with small fields is valid exactly if one of all lists of such numbers has it.
func TestAggOkEverySmallAggregate(t *testing.T) {
	values := []int{-2, -1, 0, 1}
	found := map[aggKey]bool{}
	everyBag(values, 8, func(list []int) { found[keyOf(plainAgg(list))] = true })
	valid := 0
	everyList(values, 5, func(top []int) {
		for _, least := range values {
			for _, greatest := range values {
				for n := -1; n <= 8; n++ {
					for sum := -17; sum <= 9; sum++ {
						a := impl.Agg{N: n, Sum: impl.WideOf(sum), Min: least, Max: greatest, Top: top}
						want := found[keyOf(a)]
						if got := impl.AggOk(a); got != want {
							t.Fatalf("AggOk(%v) = %v", a, got)
						}
						if want {
							valid++
						}
					}
				}
			}
		}
	})
	if valid != len(found) {
		t.Fatalf("%d of %d aggregates", valid, len(found))
	}
}

// checkEnds checks that the sum of n numbers with this minimum and these greatest ones may be anything between two ends.
func checkEnds(t *testing.T, n int, least int, top [4]int) {
	t.Helper()
	a := impl.Agg{N: n, Min: least, Max: top[0], Top: top[:]}
	known := plainSum(append(top[:], least))
	free := big.NewInt(int64(n - 5))
	low := new(big.Int).Mul(free, big.NewInt(int64(least)))
	high := new(big.Int).Mul(free, big.NewInt(int64(top[3])))
	low.Add(low, known)
	high.Add(high, known)
	middle := new(big.Int).Add(low, high)
	middle.Rsh(middle, 1)
	for _, sum := range []*big.Int{low, middle, high} {
		a.Sum = wideFrom(sum)
		if !impl.AggOk(a) {
			t.Fatalf("%v is not valid", a)
		}
		// The upper half counts, too.
		for _, by := range []int{-1, 1, math.MinInt} {
			far := a
			far.Sum.Hi += by
			if value := bigOf(far.Sum); value.Cmp(low) < 0 || value.Cmp(high) > 0 {
				refuseAgg(t, far)
			}
		}
	}
	one := big.NewInt(1)
	for _, sum := range []*big.Int{new(big.Int).Sub(low, one), new(big.Int).Add(high, one), new(big.Int).Neg(new(big.Int).Lsh(one, 127))} {
		a.Sum = wideFrom(sum)
		refuseAgg(t, a)
	}
	a.Sum = greatestWide()
	refuseAgg(t, a)
}

func TestAggOkSumsAtTheirEnds(t *testing.T) {
	for _, n := range []int{5, 6, 7, 100, 65537, 999999, 1000000} {
		for _, least := range limitsOfInt() {
			for _, last := range limitsOfInt() {
				if least <= last {
					checkEnds(t, n, least, [4]int{last, last, last, last})
					checkEnds(t, n, least, [4]int{math.MaxInt, math.MaxInt, last, last})
					checkEnds(t, n, least, [4]int{max(5, last), max(3, last), max(3, last), last})
				}
			}
		}
	}
}

// The ends of a sum are taken by lists of MaxCount numbers.
func TestAggOkSumsOfFullLists(t *testing.T) {
	for _, c := range []struct{ top, rest, least int }{{9, 2, 2}, {9, 9, 2}, {math.MaxInt, math.MaxInt, math.MinInt}, {math.MaxInt, math.MinInt, math.MinInt}, {math.MinInt, math.MinInt, math.MinInt}, {-3, -3, -4}} {
		list := append(slices.Repeat([]int{c.top}, 4), slices.Repeat([]int{c.rest}, 999995)...)
		a := checkAgg(t, append(list, c.least))
		by := 1
		if c.rest < c.top || c.top == c.least {
			by = -1
		}
		a.Sum = impl.WideAdd(a.Sum, impl.WideOf(by))
		refuseAgg(t, a)
	}
}

func TestAggOkFewNumbers(t *testing.T) {
	everyBag(limitsOfInt(), 4, func(list []int) {
		if len(list) == 0 {
			return
		}
		good := plainAgg(list)
		for _, by := range []impl.Wide{impl.WideOf(1), impl.WideOf(-1), {Hi: 1}, {Hi: -1}, {Hi: math.MinInt}} {
			a := copyAgg(good)
			a.Sum = impl.WideAdd(a.Sum, by)
			refuseAgg(t, a)
		}
		for _, v := range limitsOfInt() {
			if v != good.Min {
				a := copyAgg(good)
				a.Min = v
				refuseAgg(t, a)
			}
			if v != good.Max {
				a := copyAgg(good)
				a.Max = v
				refuseAgg(t, a)
			}
		}
	})
}

func TestAggOkInvalid(t *testing.T) {
	nine := impl.WideOf(9)
	for _, a := range []impl.Agg{
		{N: 1},
		{N: -1},
		{N: -1, Sum: nine, Min: 9, Max: 9, Top: []int{9}},
		{N: math.MinInt},
		{N: math.MinInt, Sum: nine, Min: 9, Max: 9, Top: []int{9}},
		{N: math.MaxInt, Sum: nine, Min: 9, Max: 9, Top: []int{9, 9, 9, 9}},
		{N: 1 << 32, Top: []int{0, 0, 0, 0}},
		{N: 1<<32 + 4, Top: []int{0, 0, 0, 0}},
		{N: 1000001, Top: []int{0, 0, 0, 0}},
		{Sum: nine}, {Sum: impl.Wide{Hi: 1}}, {Sum: impl.Wide{Hi: math.MinInt}}, {Min: 1}, {Max: 1}, {Min: -1}, {Max: -1}, {Min: 9, Max: 9}, {Min: math.MinInt, Max: math.MaxInt},
		{Top: []int{0}}, {Top: []int{9}, Sum: nine, Max: 9, Min: 9}, {Top: []int{0, 0, 0, 0}},
		{N: 1, Sum: nine, Min: 9, Max: 9},
		{N: 1, Sum: nine, Min: 9, Max: 9, Top: []int{9, 9}},
		{N: 1, Sum: nine, Min: 9, Max: 9, Top: []int{8}},
		{N: 1, Sum: nine, Min: 8, Max: 9, Top: []int{9}},
		{N: 2, Sum: nine, Min: 4, Max: 5, Top: []int{4, 5}},
		{N: 2, Sum: nine, Min: 4, Max: 5, Top: []int{5}},
		{N: 2, Sum: nine, Min: 5, Max: 4, Top: []int{5, 4}},
		{N: 2, Sum: nine, Min: 3, Max: 5, Top: []int{5, 4}},
		{N: 2, Sum: nine, Min: 4, Max: 6, Top: []int{5, 4}},
		{N: 2, Sum: nine, Min: 5, Max: 4, Top: []int{4, 5}},
		{N: 4, Sum: nine, Min: 1, Max: 4, Top: []int{4, 3, 1}},
		{N: 4, Sum: nine, Min: 1, Max: 4, Top: []int{4, 1, 3, 1}},
		{N: 4, Sum: nine, Min: 1, Max: 4, Top: []int{4, 3, 1, 1, 0}},
		{N: 5, Sum: nine, Min: 0, Max: 4, Top: []int{4, 3, 1, 1, 0}},
		{N: 5, Sum: nine, Min: 0, Max: 4, Top: []int{4, 3, 1}},
		{N: 5, Sum: nine, Min: 2, Max: 4, Top: []int{4, 3, 1, 1}},
		{N: 5, Sum: nine, Min: 0, Max: 4, Top: []int{3, 4, 1, 1}},
		{N: 5, Sum: nine, Min: 0, Max: 5, Top: []int{4, 3, 1, 1}},
		{N: 5, Sum: nine, Min: -1, Max: 4, Top: []int{4, 3, 1, 1}},
		{N: 6, Sum: nine, Min: 1, Max: 4, Top: []int{4, 3, 1, 1}},
	} {
		refuseAgg(t, a)
	}
	if !impl.AggOk(impl.Agg{N: 5, Sum: nine, Min: 0, Max: 4, Top: []int{4, 3, 1, 1}}) || !impl.AggOk(impl.Agg{N: 1000000, Top: []int{0, 0, 0, 0}}) {
		t.Fatal("valid aggregates")
	}
	long := impl.AggOf(slices.Repeat([]int{7}, 1000000))
	long.Top = slices.Repeat([]int{7}, 1000000)
	refuseAgg(t, long)
}

func TestP9JoinOfEveryPair(t *testing.T) {
	lists := [][]int{}
	everyList([]int{-1, 0, 2}, 3, func(list []int) { lists = append(lists, list) })
	everyBag([]int{-3, 1, 2, 4}, 5, func(list []int) { lists = append(lists, list) })
	for _, a := range lists {
		for _, b := range lists {
			checkPair(t, a, b)
		}
	}
}

func TestP9JoinAtTheLimitsOfInt(t *testing.T) {
	lists := [][]int{}
	everyBag([]int{math.MinInt, math.MinInt + 1, 0, math.MaxInt}, 5, func(list []int) { lists = append(lists, list) })
	for _, a := range lists {
		for _, b := range lists {
			checkPair(t, a, b)
		}
	}
}

func TestP9JoinWithTheEmptyAggregate(t *testing.T) {
	check := func(list []int) {
		a := impl.AggOf(list)
		if left, right := checkPair(t, nil, list), checkPair(t, list, nil); !sameAgg(left, a) || !sameAgg(right, a) {
			t.Fatalf("%v becomes %v and %v", a, left, right)
		}
	}
	// The zeros of the empty aggregate must not become a minimum or a maximum.
	for _, list := range [][]int{{5}, {-5}, {5, 6, 7}, {-5, -6, -7}, {1, 2, 3, 4, 5}, {-1, -2, -3, -4, -5}, {math.MinInt}, {math.MaxInt}} {
		check(list)
	}
	everyBag(limitsOfInt(), 5, check)
}

func TestP9JoinInAnyGroups(t *testing.T) {
	draw := draws()
	for range 400 {
		list := drawList(draw, draw(60))
		want := plainAgg(list)
		groups := make([][]int, 1+draw(8))
		for _, v := range list {
			k := draw(len(groups))
			groups[k] = append(groups[k], v)
		}
		forward, back, one := impl.Agg{}, impl.Agg{}, impl.Agg{}
		for _, group := range groups {
			forward = mustJoinAgg(t, forward, impl.AggOf(group))
			back = mustJoinAgg(t, impl.AggOf(group), back)
		}
		for _, v := range list {
			one = mustJoinAgg(t, one, impl.AggOf([]int{v}))
		}
		if !sameAgg(forward, want) || !sameAgg(back, want) || !sameAgg(one, want) {
			t.Fatalf("%v: %v, %v and %v instead of %v", groups, forward, back, one, want)
		}
	}
}

func TestP9JoinOfMaxCountNumbers(t *testing.T) {
	draw := draws()
	list := drawList(draw, 1000000)
	for _, cut := range []int{0, 1, 3, 500000, 999999, 1000000} {
		if got := checkPair(t, list[:cut], list[cut:]); got.N != impl.MaxCount {
			t.Fatal(got)
		}
		if cut > 0 {
			refuseJoin(t, impl.AggOf(list[:cut]), impl.AggOf(list[cut-1:]))
		}
	}
	full := impl.AggOf(list)
	refuseJoin(t, full, impl.AggOf([]int{0}))
	refuseJoin(t, impl.AggOf([]int{0}), full)
	refuseJoin(t, full, full)
}

// A join of wide sums is not limited by the range of int, and comes back to it.
func TestP9JoinOfWideSums(t *testing.T) {
	high, low := slices.Repeat([]int{math.MaxInt}, 500000), slices.Repeat([]int{math.MinInt}, 500000)
	both := checkPair(t, high, low)
	if both.Sum != impl.WideOf(-500000) || both.Min != math.MinInt || both.Max != math.MaxInt {
		t.Fatal(both)
	}
	if got, over := impl.AggDone(impl.AggSum, 0, both); over || !slices.Equal(got, []int{-500000}) {
		t.Fatal(got, over)
	}
	if got, over := impl.AggDone(impl.AggMean, 0, both); over || !slices.Equal(got, []int{-1}) {
		t.Fatal(got, over)
	}
	if got := checkPair(t, high, high); bigOf(got.Sum).Cmp(bigText(t, "9223372036854775807000000")) != 0 {
		t.Fatal(got)
	}
	if got := checkPair(t, low, low); bigOf(got.Sum).Cmp(bigText(t, "-9223372036854775808000000")) != 0 {
		t.Fatal(got)
	}
}

func TestAggKindAroundTheLimits(t *testing.T) {
	list := []int{4, 1, 3}
	for _, kind := range append(numbersAround(1, 6), -1, -6, 1<<32+6) {
		for _, k := range append(numbersAround(0, 4), -4, 1<<32+1) {
			want := plainKind(kind, k)
			if got := impl.AggKind(kind, k); got != want {
				t.Fatalf("AggKind(%d, %d) = %v", kind, k, got)
			}
			if got, over := checkDone(t, kind, k, list); over || len(got) > 0 != want {
				t.Fatalf("AggDone(%d, %d) = %v and %v", kind, k, got, over)
			}
		}
	}
}

func TestAggDoneEveryShortList(t *testing.T) {
	everyBag([]int{-3, -1, 0, 2, 3}, 5, func(list []int) {
		if len(list) > 0 {
			checkEveryDone(t, list)
		}
	})
	everyBag(limitsOfInt(), 4, func(list []int) {
		if len(list) > 0 {
			checkEveryDone(t, list)
		}
	})
}

func TestAggDoneSumsAroundTheRangeOfInt(t *testing.T) {
	for _, c := range []struct {
		list []int
		want []int
		over bool
	}{
		{[]int{math.MaxInt}, []int{math.MaxInt}, false},
		{[]int{math.MaxInt - 1, 1}, []int{math.MaxInt}, false},
		{[]int{math.MaxInt, 0}, []int{math.MaxInt}, false},
		{[]int{math.MaxInt, 1}, nil, true},
		{[]int{math.MaxInt, 1, -1}, []int{math.MaxInt}, false},
		{[]int{1, math.MaxInt, -1, 1}, nil, true},
		{[]int{math.MaxInt, math.MaxInt}, nil, true},
		{[]int{math.MaxInt, math.MaxInt, math.MaxInt, 3}, nil, true},
		{[]int{math.MinInt}, []int{math.MinInt}, false},
		{[]int{math.MinInt + 1, -1}, []int{math.MinInt}, false},
		{[]int{math.MinInt, 0}, []int{math.MinInt}, false},
		{[]int{math.MinInt, -1}, nil, true},
		{[]int{math.MinInt, -1, 1}, []int{math.MinInt}, false},
		{[]int{math.MinInt, math.MinInt}, nil, true},
		{[]int{math.MinInt, math.MaxInt}, []int{-1}, false},
		{[]int{math.MinInt, math.MaxInt, math.MaxInt, math.MinInt, 5}, []int{3}, false},
		{[]int{math.MaxInt, math.MinInt, 1, 1}, []int{1}, false},
	} {
		if got, over := checkDone(t, impl.AggSum, 0, c.list); over != c.over || !slices.Equal(got, c.want) {
			t.Fatalf("the sum of %v: %v and %v", c.list, got, over)
		}
		// The other kinds do not need the sum, or not as an int.
		checkEveryDone(t, c.list)
	}
}

func TestP9MeansOfNegativeSums(t *testing.T) {
	for _, c := range []struct {
		list []int
		want int
	}{
		{[]int{-7, 0}, -4}, {[]int{-1, 0}, -1}, {[]int{-1, 0, 0}, -1}, {[]int{-1, 0, 0, 0, 0, 0}, -1}, {[]int{-2, 0, 0}, -1}, {[]int{-3, 0, 0}, -1}, {[]int{-4, 0, 0}, -2}, {[]int{-5, 1, -3}, -3},
		{[]int{7, 0}, 3}, {[]int{1, 0}, 0}, {[]int{2, -3}, -1}, {[]int{3, -2}, 0}, {[]int{-9, -9, -9}, -9}, {[]int{-9, -9, -10}, -10}, {[]int{-9, -9, -9, -9, -10}, -10},
		{[]int{math.MinInt, math.MinInt + 1}, math.MinInt}, {[]int{math.MinInt, math.MinInt, math.MinInt + 2}, math.MinInt}, {[]int{math.MinInt, math.MaxInt}, -1},
		{[]int{math.MaxInt, math.MaxInt - 1}, math.MaxInt - 1}, {[]int{math.MaxInt, math.MaxInt, math.MaxInt - 3}, math.MaxInt - 1},
	} {
		if got, over := checkDone(t, impl.AggMean, 0, c.list); over || !slices.Equal(got, []int{c.want}) {
			t.Fatalf("the mean of %v: %v and %v", c.list, got, over)
		}
		checkMeanBetween(t, c.list)
	}
	for _, v := range limitsOfInt() {
		full := slices.Repeat([]int{v}, 1000000)
		checkMeanBetween(t, full)
		if got, _ := checkDone(t, impl.AggMean, 0, full); !slices.Equal(got, []int{v}) {
			t.Fatalf("the mean of %d, a million times: %v", v, got)
		}
		if v > math.MinInt {
			// One less in a million, and the mean is rounded down.
			full[999] = v - 1
			if got, _ := checkDone(t, impl.AggMean, 0, full); !slices.Equal(got, []int{v - 1}) {
				t.Fatalf("the mean of %d and one less: %v", v, got)
			}
			checkMeanBetween(t, full)
		}
	}
}

func TestAggDoneTop(t *testing.T) {
	for size, list := range [][]int{nil, {5}, {5, 9}, {5, 9, 7}, {5, 9, 7, 7}, {5, 9, 7, 7, 1}} {
		down := plainDown(list)
		for k := 1; k <= 4 && size > 0; k++ {
			if got, over := checkDone(t, impl.AggTop, k, list); over || !slices.Equal(got, down[:min(k, size)]) {
				t.Fatalf("the first %d of %v: %v and %v", k, list, got, over)
			}
		}
		for _, k := range []int{math.MinInt, -1, 0, 5, math.MaxInt} {
			if got, over := impl.AggDone(impl.AggTop, k, impl.AggOf(list)); over || len(got) > 0 {
				t.Fatalf("the first %d of %v: %v and %v", k, list, got, over)
			}
		}
	}
}

func checkTop(t *testing.T, a []int, b []int) []int {
	t.Helper()
	keptA, keptB := slices.Clone(a), slices.Clone(b)
	down := plainDown(slices.Concat(a, b))
	got := impl.TopOf(a, b)
	if !slices.Equal(got, down[:min(4, len(down))]) {
		t.Fatalf("TopOf(%v, %v) = %v", short(a), short(b), got)
	}
	if !slices.Equal(a, keptA) || !slices.Equal(b, keptB) {
		t.Fatalf("the arguments %v and %v are changed to %v and %v", short(keptA), short(keptB), short(a), short(b))
	}
	return got
}

func TestTopOf(t *testing.T) {
	lists := [][]int{nil}
	everyList([]int{-2, 0, 1}, 3, func(list []int) { lists = append(lists, list) })
	everyList(limitsOfInt(), 2, func(list []int) { lists = append(lists, list) })
	everyBag([]int{-9, -4, 6}, 6, func(list []int) { lists = append(lists, list) })
	for _, a := range lists {
		for _, b := range lists {
			checkTop(t, a, b)
		}
	}
	if got := impl.TopOf([]int{1, 7}, []int{5, 9, 3}); !slices.Equal(got, []int{9, 7, 5, 3}) {
		t.Fatal(got)
	}
	draw := draws()
	for range 200 {
		checkTop(t, drawList(draw, draw(100)), drawList(draw, draw(100)))
	}
	// The lists may be longer than those of an aggregate.
	long := slices.Repeat([]int{-6}, 1000001)
	long[1000000] = -5
	if got := checkTop(t, long, long); !slices.Equal(got, []int{-5, -5, -6, -6}) {
		t.Fatal(got)
	}
}

// spoilNumbers overwrites a result with all that lies behind it.
func spoilNumbers(list []int) {
	all := list[:cap(list)]
	for i := range all {
		all[i] = -77
	}
}

func TestAggMemory(t *testing.T) {
	whole := []int{9, 7, 7, 2, 30, 40}
	others := []int{5, 4, 50, 60}
	keptWhole, keptOthers := slices.Clone(whole), slices.Clone(others)
	// What lies beyond the length of a list does not count, nor what lies beyond that of Top.
	list, other := whole[:4], others[:2]
	a := impl.Agg{N: 4, Sum: impl.WideOf(25), Min: 2, Max: 9, Top: list}
	b := impl.Agg{N: 2, Sum: impl.WideOf(9), Min: 4, Max: 5, Top: other}
	for range 2 {
		if !sameAgg(a, checkAgg(t, list)) || !sameAgg(b, checkAgg(t, other)) || !impl.AggOk(a) || !impl.AggOk(b) {
			t.Fatal(a, b)
		}
		for _, pair := range [][2]impl.Agg{{a, b}, {b, a}, {a, {}}, {{}, a}, {a, a}, {b, b}, {{}, {}}} {
			got := mustJoinAgg(t, pair[0], pair[1])
			if !sameAgg(got, plainAgg(slices.Concat(pair[0].Top, pair[1].Top))) {
				t.Fatal(got)
			}
			spoilNumbers(got.Top)
		}
		for k := 1; k <= 4; k++ {
			got, over := impl.AggDone(impl.AggTop, k, a)
			if over || !slices.Equal(got, keptWhole[:k]) {
				t.Fatal(got, over)
			}
			spoilNumbers(got)
		}
		for kind := 1; kind <= 5; kind++ {
			got, _ := impl.AggDone(kind, 0, b)
			spoilNumbers(got)
		}
		for _, pair := range [][2][]int{{list, other}, {list, nil}, {nil, list}, {other, list}, {list, list}, {nil, other}} {
			spoilNumbers(checkTop(t, pair[0], pair[1]))
		}
		spoilNumbers(impl.AggOf(list).Top)
		spoilNumbers(impl.AggOf(other).Top)
		if !slices.Equal(whole, keptWhole) || !slices.Equal(others, keptOthers) {
			t.Fatal("an argument is changed, or a result shares memory with it")
		}
	}
}
