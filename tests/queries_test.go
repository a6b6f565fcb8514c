package tests

import (
	"math"
	"slices"
	"testing"

	"loop.example/g00699/impl"
)

func plainQueryOk(q impl.Query) bool {
	return plainDepth(q.Filter) >= 1 && plainDepth(q.Map) >= 1 && plainDefOk(q.Win) && plainKind(q.Kind, q.K)
}

func plainElemOk(e impl.Elem) bool {
	return e.Src >= 0 && e.Src <= 3 && e.Key >= 0 && e.Key <= 15 && e.Time >= 0 && e.Time <= 1000
}

// plainTake is the document's list of codes, in its order.
func plainTake(q impl.Query, e impl.Elem) (int, int) {
	accepted, filterCode := plainRun(q.Filter, e)
	value, mapCode := plainRun(q.Map, e)
	switch {
	case !plainQueryOk(q) || !plainElemOk(e):
		return 0, 2
	case filterCode != 0:
		return 0, 3
	case accepted == 0:
		return 0, 1
	case mapCode != 0:
		return 0, 3
	}
	return value, 0
}

func plainPaneOk(p impl.Pane) bool {
	inRange := p.Query >= 0 && p.Query <= 3 && p.Key >= 0 && p.Key <= 15 && p.Label >= 0 && p.Label <= 15 && p.N >= 1 && p.N <= 1000000
	if !inRange || !plainWinOk(win(p.From, p.To)) {
		return false
	}
	if p.Over {
		return len(p.Vals) == 0
	}
	return len(p.Vals) >= 1 && len(p.Vals) <= 4
}

// plainPaneOf makes the pane of a list of at most MaxCount numbers, without its aggregate.
func plainPaneOf(id int, q impl.Query, key int, w impl.Win, label int, list []int) (impl.Pane, bool) {
	if !plainQueryOk(q) || len(list) == 0 {
		return impl.Pane{}, false
	}
	p := impl.Pane{Query: id, Key: key, From: w.From, To: w.To, Label: label, N: len(list)}
	p.Vals, p.Over = plainDone(q.Kind, q.K, list)
	if !plainPaneOk(p) {
		return impl.Pane{}, false
	}
	return p, true
}

func plainPrecedes(p impl.Pane, q impl.Pane) bool {
	return slices.Compare([]int{p.Query, p.Key, p.From, p.To}, []int{q.Query, q.Key, q.From, q.To}) < 0
}

// plainSorted takes, again and again, the first of the panes that no other one precedes.
func plainSorted(list []impl.Pane) []impl.Pane {
	rest, result := slices.Clone(list), []impl.Pane{}
	for len(rest) > 0 {
		first := 0
		for i := range rest {
			if plainPrecedes(rest[i], rest[first]) {
				first = i
			}
		}
		result = append(result, rest[first])
		rest = slices.Delete(rest, first, first+1)
	}
	return result
}

func sameQuery(p impl.Query, q impl.Query) bool {
	return sameExpr(p.Filter, q.Filter) && sameExpr(p.Map, q.Map) && p.Win == q.Win && p.Kind == q.Kind && p.K == q.K
}

func samePane(p impl.Pane, q impl.Pane) bool {
	return p.Query == q.Query && p.Key == q.Key && p.From == q.From && p.To == q.To && p.Label == q.Label && p.N == q.N && slices.Equal(p.Vals, q.Vals) && p.Over == q.Over
}

func samePanes(a []impl.Pane, b []impl.Pane) bool { return slices.EqualFunc(a, b, samePane) }

func copyQuery(q impl.Query) impl.Query {
	q.Filter, q.Map = slices.Clone(q.Filter), slices.Clone(q.Map)
	return q
}

func copyPanes(list []impl.Pane) []impl.Pane {
	list = slices.Clone(list)
	for i := range list {
		list[i].Vals = slices.Clone(list[i].Vals)
	}
	return list
}

// expr returns a valid expression, or one that is not valid for the empty text.
func expr(t *testing.T, s string) []impl.Tok {
	t.Helper()
	if s == "" {
		return nil
	}
	return mustRead(t, s)
}

// queryOf returns a valid query for valid texts: the sum over tumbling windows.
func queryOf(t *testing.T, filter string, value string) impl.Query {
	t.Helper()
	return impl.Query{Filter: expr(t, filter), Map: expr(t, value), Win: tumbling(10), Kind: impl.AggSum}
}

func queryFor(t *testing.T, kind int, k int) impl.Query {
	t.Helper()
	q := queryOf(t, "1", "val")
	q.Kind, q.K = kind, k
	return q
}

func goodPane() impl.Pane { return impl.Pane{From: 5, To: 10, N: 1, Vals: []int{7}} }

// badExprs returns an expression for each reason why one is not valid.
func badExprs() [][]impl.Tok {
	return [][]impl.Tok{
		nil,
		{},
		pushes(2),
		pushes(21),
		repeated(pushes(1), impl.Tok{Op: impl.OpNot}, 20),
		repeated(pushes(11), impl.Tok{Op: impl.OpAdd}, 10),
		{{Op: impl.OpNot}},
		{{Op: impl.OpVal}, {Op: impl.OpAdd}},
		{{Op: impl.OpVal, N: 1}},
		{{Op: impl.OpVal}, {Op: impl.OpNot, N: -1}},
		{{Op: -1}},
		{{Op: 12}},
		{{Op: math.MinInt}},
		{{Op: math.MaxInt}},
		{{Op: 1 << 32}},
	}
}

func badDefs() []impl.WinDef {
	return []impl.WinDef{
		{}, {Size: 10}, {Kind: 4, Size: 10}, {Kind: -1, Size: 10}, {Kind: 1 << 32, Size: 10}, {Kind: 1<<32 + 1, Size: 10}, {Kind: math.MinInt, Size: 10}, {Kind: math.MaxInt, Size: 10},
		tumbling(0), tumbling(-1), tumbling(101), tumbling(math.MaxInt), tumbling(math.MinInt),
		sessions(0), sessions(-1), sessions(101), sessions(math.MaxInt), sessions(math.MinInt),
		{Kind: impl.WinTumble, Size: 10, Step: 10}, {Kind: impl.WinTumble, Size: 10, Step: 1}, {Kind: impl.WinTumble, Size: 10, Step: -1},
		{Kind: impl.WinSession, Size: 10, Step: 10}, {Kind: impl.WinSession, Size: 10, Step: 1}, {Kind: impl.WinSession, Size: 10, Step: math.MinInt},
		sliding(10, 0), sliding(10, 1), sliding(10, 11), sliding(10, -1), sliding(0, 0), sliding(101, 50), sliding(101, 101), sliding(17, 2), sliding(math.MaxInt, math.MaxInt), sliding(math.MinInt, math.MinInt), sliding(10, 1<<61), sliding(10, math.MinInt),
	}
}

// badQueries returns the zero value and queries of which a single part is not valid.
func badQueries(t *testing.T) []impl.Query {
	t.Helper()
	list := []impl.Query{{}}
	for _, x := range badExprs() {
		filter, value := queryOf(t, "1", "val"), queryOf(t, "1", "val")
		filter.Filter, value.Map = x, x
		list = append(list, filter, value)
	}
	for _, d := range badDefs() {
		q := queryOf(t, "1", "val")
		q.Win = d
		list = append(list, q)
	}
	for _, c := range [][2]int{{0, 0}, {7, 0}, {-1, 0}, {1<<32 + 1, 0}, {math.MinInt, 0}, {math.MaxInt, 0}, {1, 1}, {2, 1}, {3, 4}, {4, -1}, {5, 1}, {6, 0}, {6, 5}, {6, -1}, {6, 1<<32 + 1}, {6, math.MinInt}, {6, math.MaxInt}} {
		list = append(list, queryFor(t, c[0], c[1]))
	}
	return list
}

func badElems() []impl.Elem {
	list := []impl.Elem{}
	for _, n := range []int{-1, 1 << 32, math.MinInt, math.MinInt + 1, math.MaxInt} {
		list = append(list, impl.Elem{Src: n, Val: 5}, impl.Elem{Key: n, Val: 5}, impl.Elem{Time: n, Val: 5})
	}
	return append(list, impl.Elem{Src: 4, Val: 5}, impl.Elem{Key: 16, Val: 5}, impl.Elem{Time: 1001, Val: 5}, impl.Elem{Src: 4, Key: 16, Val: 5, Time: 1001})
}

// badAggs returns aggregates of no list, and the empty one.
func badAggs() []impl.Agg {
	nine := impl.WideOf(9)
	return []impl.Agg{
		{}, {Top: []int{}}, {N: 1}, {N: -1}, {Sum: nine}, {Min: 9, Max: 9}, {Top: []int{9}},
		{N: 0, Sum: nine, Min: 9, Max: 9, Top: []int{9}},
		{N: -1, Sum: nine, Min: 9, Max: 9, Top: []int{9}},
		{N: 1, Sum: nine, Min: 8, Max: 9, Top: []int{9}},
		{N: 1, Sum: impl.WideOf(8), Min: 9, Max: 9, Top: []int{9}},
		{N: 1, Sum: impl.Wide{Hi: 1, Lo: 9}, Min: 9, Max: 9, Top: []int{9}},
		{N: 1, Sum: nine, Min: 9, Max: 9},
		{N: 2, Sum: nine, Min: 4, Max: 5, Top: []int{4, 5}},
		{N: 5, Sum: nine, Min: 1, Max: 4, Top: []int{4, 3, 1, 1, 0}},
		{N: 1000001, Top: []int{0, 0, 0, 0}},
		{N: math.MaxInt, Top: []int{0, 0, 0, 0}},
		{N: math.MinInt, Top: []int{0, 0, 0, 0}},
		{N: 1<<32 + 4, Top: []int{0, 0, 0, 0}},
	}
}

func checkTake(t *testing.T, q impl.Query, e impl.Elem) (int, int) {
	t.Helper()
	kept := copyQuery(q)
	want, wantCode := plainTake(q, e)
	got, code := impl.QueryTake(q, e)
	if got != want || code != wantCode {
		t.Fatalf("QueryTake(%v, %v) = %d and %d, not %d and %d", q, e, got, code, want, wantCode)
	}
	if !sameQuery(q, kept) {
		t.Fatalf("the argument %v is changed to %v", kept, q)
	}
	return got, code
}

func checkQueryOk(t *testing.T, q impl.Query) {
	t.Helper()
	kept := copyQuery(q)
	if got, want := impl.QueryOk(q), plainQueryOk(q); got != want {
		t.Fatalf("QueryOk(%v) = %v", q, got)
	}
	if !sameQuery(q, kept) {
		t.Fatalf("the argument %v is changed to %v", kept, q)
	}
}

func checkPaneOk(t *testing.T, p impl.Pane, want bool) {
	t.Helper()
	kept := slices.Clone(p.Vals)
	if plainPaneOk(p) != want {
		t.Fatalf("the test is wrong about %v", p)
	}
	if got := impl.PaneOk(p); got != want {
		t.Fatalf("PaneOk(%v) = %v", p, got)
	}
	if !slices.Equal(p.Vals, kept) {
		t.Fatalf("the argument %v is changed to %v", kept, p.Vals)
	}
}

// checkPaneOf compares the pane of a list of numbers.
func checkPaneOf(t *testing.T, id int, q impl.Query, key int, w impl.Win, label int, list []int) (impl.Pane, bool) {
	t.Helper()
	a := impl.AggOf(list)
	keptQuery, keptAgg := copyQuery(q), copyAgg(a)
	want, wantOk := plainPaneOf(id, q, key, w, label, list)
	got, ok := impl.PaneOf(id, q, key, w, label, a)
	if ok != wantOk || !samePane(got, want) {
		t.Fatalf("PaneOf(%d, %v, %d, %v, %d, %v) = %v and %v, not %v and %v", id, q, key, w, label, a, got, ok, want, wantOk)
	}
	if impl.PaneOk(got) != ok {
		t.Fatalf("PaneOk(%v) is not %v", got, ok)
	}
	if !sameQuery(q, keptQuery) || !sameAgg(a, keptAgg) {
		t.Fatalf("the arguments %v and %v are changed to %v and %v", keptQuery, keptAgg, q, a)
	}
	return got, ok
}

func refusePaneOf(t *testing.T, id int, q impl.Query, key int, w impl.Win, label int, a impl.Agg) {
	t.Helper()
	keptQuery, keptAgg := copyQuery(q), copyAgg(a)
	if got, ok := impl.PaneOf(id, q, key, w, label, a); ok || !samePane(got, impl.Pane{}) {
		t.Fatalf("PaneOf(%d, %v, %d, %v, %d, %v) = %v and %v", id, q, key, w, label, a, got, ok)
	}
	if !sameQuery(q, keptQuery) || !sameAgg(a, keptAgg) {
		t.Fatalf("the arguments %v and %v are changed to %v and %v", keptQuery, keptAgg, q, a)
	}
}

func checkLess(t *testing.T, p impl.Pane, q impl.Pane) {
	t.Helper()
	kept := copyPanes([]impl.Pane{p, q})
	if got := impl.PaneLess(p, q); got != plainPrecedes(p, q) {
		t.Fatalf("PaneLess(%v, %v) = %v", p, q, got)
	}
	if got := impl.PaneLess(q, p); got != plainPrecedes(q, p) {
		t.Fatalf("PaneLess(%v, %v) = %v", q, p, got)
	}
	if !samePanes([]impl.Pane{p, q}, kept) {
		t.Fatalf("the arguments %v are changed to %v and %v", kept, p, q)
	}
}

func checkSort(t *testing.T, list []impl.Pane) []impl.Pane {
	t.Helper()
	kept := copyPanes(list)
	got, want := impl.PanesSort(list), plainSorted(list)
	if !samePanes(got, want) {
		t.Fatalf("PanesSort(%v) = %v, not %v", list, got, want)
	}
	if !samePanes(list, kept) {
		t.Fatalf("the argument %v is changed to %v", kept, list)
	}
	return got
}

func TestQueryLimits(t *testing.T) {
	if impl.MaxQueries != 4 || impl.TakeFine != 0 || impl.TakePass != 1 || impl.TakeForm != 2 || impl.TakeFail != 3 {
		t.Fatal("limits")
	}
}

func TestQueryOkEveryWindowDefinition(t *testing.T) {
	q := queryOf(t, "val 3 <", "10 val /")
	valid := 0
	everyDef(func(d impl.WinDef) {
		q.Win = d
		checkQueryOk(t, q)
		if !impl.QueryOk(q) {
			t.Fatal(q)
		}
		valid++
	})
	if valid < 300 {
		t.Fatal(valid)
	}
	for _, kind := range append(numbersAround(1, 3), 1<<32+1, 1<<32+2, 1<<32+3) {
		for _, size := range []int{math.MinInt, -1, 0, 1, 2, 7, 8, 9, 16, 17, 99, 100, 101, 108, 1 << 32, 1<<32 + 5, math.MaxInt} {
			for _, step := range []int{math.MinInt, -1, 0, 1, 2, 7, 8, 9, 12, 13, 16, 17, 99, 100, 101, 1 << 32, 1 << 61, math.MaxInt} {
				q.Win = impl.WinDef{Kind: kind, Size: size, Step: step}
				checkQueryOk(t, q)
			}
		}
	}
}

func TestQueryOkEveryAggregate(t *testing.T) {
	for _, d := range []impl.WinDef{tumbling(10), sliding(8, 1), sessions(100)} {
		for _, kind := range append(numbersAround(1, 6), -1, -6, 1<<32+6) {
			for _, k := range append(numbersAround(0, 4), -4, 1<<32, 1<<32+1) {
				q := queryFor(t, kind, k)
				q.Win = d
				checkQueryOk(t, q)
			}
		}
	}
	for kind := impl.AggCount; kind <= impl.AggTop; kind++ {
		for _, c := range []struct {
			k   int
			top bool
		}{{0, false}, {1, true}, {impl.MaxTop, true}, {impl.MaxTop + 1, false}} {
			want := c.k == 0
			if kind == impl.AggTop {
				want = c.top
			}
			if got := impl.QueryOk(queryFor(t, kind, c.k)); got != want {
				t.Fatalf("the kind %d with %d: %v", kind, c.k, got)
			}
		}
	}
}

func TestQueryOkExpressions(t *testing.T) {
	longest := repeated(pushes(1), impl.Tok{Op: impl.OpNot}, 19)
	good := [][]impl.Tok{pushes(1), longest, repeated(pushes(10), impl.Tok{Op: impl.OpAdd}, 9), mustRead(t, "1 0 /"), mustRead(t, "val")}
	for _, filter := range append(badExprs(), good...) {
		for _, value := range append(badExprs(), good...) {
			checkQueryOk(t, impl.Query{Filter: filter, Map: value, Win: tumbling(1), Kind: impl.AggCount})
		}
	}
	for _, x := range good {
		if !impl.QueryOk(impl.Query{Filter: x, Map: x, Win: sliding(8, 1), Kind: impl.AggTop, K: 4}) {
			t.Fatal(x)
		}
	}
}

func TestQueryInvalid(t *testing.T) {
	for _, q := range badQueries(t) {
		checkQueryOk(t, q)
		if impl.QueryOk(q) {
			t.Fatalf("%v is valid", q)
		}
		for _, e := range append(badElems(), impl.Elem{Val: 5}, impl.Elem{Src: 3, Key: 15, Time: 1000}) {
			if v, code := checkTake(t, q, e); v != 0 || code != impl.TakeForm {
				t.Fatalf("QueryTake(%v, %v) = %d and %d", q, e, v, code)
			}
		}
		for _, w := range []impl.Win{win(0, 10), win(10, 5)} {
			refusePaneOf(t, 0, q, 0, w, 0, impl.AggOf([]int{9}))
			refusePaneOf(t, 0, q, 0, w, 0, impl.AggOf([]int{math.MaxInt, 9}))
			refusePaneOf(t, 0, q, 0, w, 0, impl.Agg{})
		}
	}
}

func TestElemOk(t *testing.T) {
	for _, src := range numbersAround(0, 3) {
		for _, key := range numbersAround(0, 15) {
			for _, time := range []int{math.MinInt, -1, 0, 1, 500, 999, 1000, 1001, 1 << 32, 1<<32 + 1, math.MaxInt} {
				for _, v := range []int{math.MinInt, -1, 0, 1, math.MaxInt} {
					e := impl.Elem{Src: src, Key: key, Val: v, Time: time}
					if got := impl.ElemOk(e); got != plainElemOk(e) {
						t.Fatalf("ElemOk(%v) = %v", e, got)
					}
				}
			}
		}
	}
	for _, e := range badElems() {
		if impl.ElemOk(e) {
			t.Fatalf("%v is valid", e)
		}
	}
	for _, e := range []impl.Elem{{}, {Src: 3}, {Key: 15}, {Time: 1000}, {Val: math.MinInt}, {Src: 3, Key: 15, Val: math.MaxInt, Time: 1000}} {
		if !impl.ElemOk(e) {
			t.Fatalf("%v is not valid", e)
		}
	}
}

// Every way in which a filter, a map and an element can end meets every other one.
func TestP10CodesInTheirOrder(t *testing.T) {
	filters := map[string]string{
		"": "form", "1": "yes", "val": "yes", "-1": "yes", "-9223372036854775808": "yes", "2": "yes", "val 5 =": "yes", "0": "no", "val 5 <": "no", "val val -": "no",
		"1 0 /": "fail", "val 0 /": "fail", "9223372036854775807 1 +": "fail", "-9223372036854775808 -1 /": "fail", "9223372036854775807 val * 0 &": "fail", "0 0 / 0 &": "fail",
	}
	values := map[string]string{
		"": "form", "val": "5", "val !": "0", "0": "0", "-3": "-3", "9223372036854775807": "max", "-9223372036854775808": "min",
		"1 0 /": "fail", "key 0 /": "fail", "9223372036854775807 1 +": "fail", "-9223372036854775808 1 -": "fail", "9223372036854775807 2 * !": "fail",
	}
	results := map[string]int{"5": 5, "0": 0, "-3": -3, "max": math.MaxInt, "min": math.MinInt}
	for filter, accepted := range filters {
		for value, result := range values {
			for _, e := range append(badElems(), impl.Elem{Val: 5}, impl.Elem{Src: 3, Key: 15, Val: 5, Time: 1000}) {
				want := impl.TakeFine
				switch {
				case accepted == "form" || result == "form" || !plainElemOk(e):
					want = impl.TakeForm
				case accepted == "fail":
					want = impl.TakeFail
				case accepted == "no":
					want = impl.TakePass
				case result == "fail":
					want = impl.TakeFail
				}
				wantValue := 0
				if want == impl.TakeFine {
					wantValue = results[result]
				}
				if v, code := checkTake(t, queryOf(t, filter, value), e); v != wantValue || code != want {
					t.Fatalf("%q, %q and %v: %d and %d, not %d and %d", filter, value, e, v, code, wantValue, want)
				}
			}
		}
	}
}

func TestP10DocumentedTakes(t *testing.T) {
	for _, c := range []struct {
		filter, value string
		e             impl.Elem
		want, code    int
	}{
		{"val 3 <", "10 val /", impl.Elem{Val: 2}, 5, impl.TakeFine},
		{"val 3 <", "10 val /", impl.Elem{Val: 3}, 0, impl.TakePass},
		{"val 3 <", "10 val /", impl.Elem{Val: 0}, 0, impl.TakeFail},
		{"val 3 <", "10 val /", impl.Elem{Val: -10}, -1, impl.TakeFine},
		{"val 3 <", "10 val /", impl.Elem{Val: 11}, 0, impl.TakePass},
		{"10 val /", "val 3 <", impl.Elem{Val: 0}, 0, impl.TakeFail},
		{"10 val /", "val 3 <", impl.Elem{Val: 11}, 0, impl.TakePass},
		{"10 val /", "val 3 <", impl.Elem{Val: 9}, 0, impl.TakeFine},
		{"10 val /", "val 3 <", impl.Elem{Val: -10}, 1, impl.TakeFine},
		{"key 9 =", "time key *", impl.Elem{Src: 2, Key: 9, Val: 4, Time: 100}, 900, impl.TakeFine},
		{"key 9 =", "time key *", impl.Elem{Src: 2, Key: 8, Val: 4, Time: 100}, 0, impl.TakePass},
		{"val", "val val *", impl.Elem{Val: math.MinInt}, 0, impl.TakeFail},
		{"val", "val val *", impl.Elem{Val: 0}, 0, impl.TakePass},
		{"val", "val val *", impl.Elem{Val: -3}, 9, impl.TakeFine},
		{"val 1 +", "val", impl.Elem{Val: math.MaxInt}, 0, impl.TakeFail},
		{"val 1 +", "val", impl.Elem{Val: math.MinInt}, math.MinInt, impl.TakeFine},
		{"val 1 +", "val", impl.Elem{Val: -1}, 0, impl.TakePass},
	} {
		if v, code := checkTake(t, queryOf(t, c.filter, c.value), c.e); v != c.want || code != c.code {
			t.Fatalf("%v: %d and %d", c, v, code)
		}
	}
}

func TestP10EveryShortFilterAndMap(t *testing.T) {
	list := []impl.Tok{{N: 0}, {N: math.MaxInt}, {Op: impl.OpKey}, {Op: impl.OpVal}, {Op: impl.OpAdd}, {Op: impl.OpDiv}, {Op: impl.OpLt}, {Op: impl.OpNot}, {Op: impl.OpVal, N: 1}}
	short := [][]impl.Tok{}
	everyExpr(list, 2, func(x []impl.Tok) { short = append(short, slices.Clone(x)) })
	elems := []impl.Elem{{}, {Src: 3, Key: 15, Val: -7, Time: 1000}, {Val: math.MaxInt, Key: 2}, {Key: 16}}
	everyExpr(list, 3, func(x []impl.Tok) {
		for _, y := range short {
			for _, e := range elems {
				checkTake(t, impl.Query{Filter: x, Map: y, Win: sessions(5), Kind: impl.AggMax}, e)
				checkTake(t, impl.Query{Filter: y, Map: x, Win: sliding(6, 3), Kind: impl.AggTop, K: 2}, e)
			}
		}
	})
}

// Window, kind and number of a query do not matter for what it takes, as long as they are valid.
func TestP10EveryKindOfQueryTakesAlike(t *testing.T) {
	q := queryOf(t, "key", "val time +")
	for _, d := range append(badDefs(), tumbling(1), tumbling(100), sliding(100, 13), sliding(1, 1), sliding(8, 1), sessions(1), sessions(100)) {
		for kind := 0; kind <= 7; kind++ {
			for _, k := range []int{-1, 0, 1, 4, 5} {
				q.Win, q.Kind, q.K = d, kind, k
				checkQueryOk(t, q)
				for _, e := range []impl.Elem{{Key: 1, Val: 7, Time: 9}, {Val: 7, Time: 9}, {Key: 1, Val: math.MaxInt, Time: 1}, {Src: 4, Key: 1}} {
					checkTake(t, q, e)
				}
			}
		}
	}
}

func TestP10ElementsAtTheirLimits(t *testing.T) {
	q := queryOf(t, "1", "val key + time +")
	for _, src := range numbersAround(0, 3) {
		for _, key := range numbersAround(0, 15) {
			for _, time := range []int{math.MinInt, -1, 0, 1000, 1001, math.MaxInt} {
				v, code := checkTake(t, q, impl.Elem{Src: src, Key: key, Val: -5, Time: time})
				valid := src >= 0 && src < impl.MaxSources && key >= 0 && key <= impl.MaxKey && time >= 0 && time <= impl.MaxTime
				if valid && (code != impl.TakeFine || v != key+time-5) || !valid && (code != impl.TakeForm || v != 0) {
					t.Fatalf("source %d, key %d and time %d: %d and %d", src, key, time, v, code)
				}
			}
		}
	}
	for _, v := range someInts() {
		if got, code := checkTake(t, queryOf(t, "1", "val"), impl.Elem{Val: v}); got != v || code != impl.TakeFine {
			t.Fatalf("%d: %d and %d", v, got, code)
		}
	}
}

func TestPaneOkFieldsAtTheirLimits(t *testing.T) {
	checkPaneOk(t, impl.Pane{}, false)
	checkPaneOk(t, goodPane(), true)
	for _, c := range []struct {
		least, most int
		put         func(p *impl.Pane, n int)
	}{
		{0, 3, func(p *impl.Pane, n int) { p.Query = n }},
		{0, 15, func(p *impl.Pane, n int) { p.Key = n }},
		{0, 9, func(p *impl.Pane, n int) { p.From = n }},
		{6, 1100, func(p *impl.Pane, n int) { p.To = n }},
		{0, 15, func(p *impl.Pane, n int) { p.Label = n }},
		{1, 1000000, func(p *impl.Pane, n int) { p.N = n }},
	} {
		for _, n := range []int{math.MinInt, math.MinInt + 1, -1 << 32, -2, c.least - 1, c.least, c.least + 1, c.most - 1, c.most, c.most + 1, 1<<32 + c.least, math.MaxInt} {
			p := goodPane()
			c.put(&p, n)
			checkPaneOk(t, p, n >= c.least && n <= c.most)
			p.Vals, p.Over = nil, true
			checkPaneOk(t, p, n >= c.least && n <= c.most)
		}
	}
	checkPaneOk(t, impl.Pane{Query: 3, Key: 15, From: 1099, To: 1100, Label: 15, N: 1000000, Vals: []int{math.MinInt, math.MaxInt, 0, 1}}, true)
}

func TestPaneOkWindows(t *testing.T) {
	times := []int{math.MinInt, -1, 0, 1, 5, 999, 1000, 1001, 1099, 1100, 1101, 1 << 32, math.MaxInt}
	for _, from := range times {
		for _, to := range times {
			p := goodPane()
			p.From, p.To = from, to
			checkPaneOk(t, p, from >= 0 && from < to && to <= impl.MaxTime+impl.MaxSize)
		}
	}
}

func TestPaneOkValsAndOver(t *testing.T) {
	for size := range 8 {
		p := goodPane()
		p.Vals = make([]int, size)
		checkPaneOk(t, p, size >= 1 && size <= impl.MaxTop)
		p.Over = true
		checkPaneOk(t, p, size == 0)
	}
	long := goodPane()
	long.Vals = make([]int, 1<<16)
	checkPaneOk(t, long, false)
	// Neither the order nor the values of Vals count, nor whether N is smaller than their number.
	for _, vals := range [][]int{{1, 2}, {2, 1, 3}, {math.MinInt, math.MaxInt}, {0, 0, 0, 0}} {
		p := goodPane()
		p.Vals = vals
		checkPaneOk(t, p, true)
	}
}

// fieldPane makes a pane by four numbers, and numbers it.
func fieldPane(fields [4]int, n int) impl.Pane {
	return impl.Pane{Query: fields[0], Key: fields[1], From: fields[2], To: fields[3], N: n}
}

func TestP10LessByOneFieldAlone(t *testing.T) {
	for field := range 4 {
		for _, n := range []int{math.MinInt, -1, 0, 7, math.MaxInt - 1} {
			low, high := [4]int{2, 2, 2, 2}, [4]int{2, 2, 2, 2}
			low[field], high[field] = n, n+1
			p, q := fieldPane(low, 9), fieldPane(high, 1)
			// What counts less must not outweigh the field.
			for after := field + 1; after < 4; after++ {
				low[after], high[after] = 3, 1
				checkLess(t, fieldPane(low, 9), fieldPane(high, 1))
				if !impl.PaneLess(fieldPane(low, 9), fieldPane(high, 1)) {
					t.Fatalf("%v does not precede %v", low, high)
				}
			}
			if !impl.PaneLess(p, q) || impl.PaneLess(q, p) || impl.PaneLess(p, p) {
				t.Fatalf("%v and %v", p, q)
			}
		}
	}
	for _, c := range [][2]int{{math.MinInt, math.MaxInt}, {math.MinInt, 1}, {-2, math.MaxInt}, {-1, 0}, {0, 1 << 32}} {
		for field := range 4 {
			low, high := [4]int{}, [4]int{}
			low[field], high[field] = c[0], c[1]
			if !impl.PaneLess(fieldPane(low, 0), fieldPane(high, 0)) || impl.PaneLess(fieldPane(high, 0), fieldPane(low, 0)) {
				t.Fatalf("%v and %v", low, high)
			}
		}
	}
}

func TestP10LessIgnoresTheOtherFields(t *testing.T) {
	p := impl.Pane{Query: 1, Key: 2, From: 3, To: 4, Label: 5, N: 6, Vals: []int{7, 8}}
	others := slices.Repeat([]impl.Pane{p}, 9)
	others[1].Label = 4
	others[2].Label = math.MaxInt
	others[3].N = math.MinInt
	others[4].N = 7
	others[5].Vals = nil
	others[6].Vals = []int{7, 9}
	others[7].Vals = []int{-7}
	others[8].Over = true
	for _, q := range others {
		for _, r := range others {
			checkLess(t, q, r)
			if impl.PaneLess(q, r) || impl.PaneLess(r, q) {
				t.Fatalf("%v and %v", q, r)
			}
			checkSort(t, []impl.Pane{q, r})
		}
	}
	checkSort(t, others)
	slices.Reverse(others)
	checkSort(t, others)
}

func TestP10LessEveryPair(t *testing.T) {
	list := []impl.Pane{}
	everyList([]int{math.MinInt, 0, math.MaxInt}, 4, func(fields []int) {
		if len(fields) == 4 {
			list = append(list, fieldPane([4]int(fields), len(list)))
		}
	})
	if len(list) != 81 {
		t.Fatal(len(list))
	}
	for i, p := range list {
		for k, q := range list {
			checkLess(t, p, q)
			// everyList calls use in ascending order of the fields.
			if impl.PaneLess(p, q) != (i < k) {
				t.Fatalf("%v and %v", p, q)
			}
		}
	}
	slices.Reverse(list)
	checkSort(t, list)
	for i, p := range checkSort(t, list) {
		if p.N != i {
			t.Fatalf("%v at %d", p, i)
		}
	}
}

func TestP10SortFewPanes(t *testing.T) {
	for _, list := range [][]impl.Pane{nil, {}} {
		if got := checkSort(t, list); len(got) != 0 {
			t.Fatal(got)
		}
	}
	for _, p := range []impl.Pane{{}, goodPane(), {Query: -1, Key: math.MinInt, From: 9, To: 1, Label: math.MaxInt, N: -3, Vals: []int{1, 2, 3, 4, 5, 6}, Over: true}} {
		if got := checkSort(t, []impl.Pane{p}); len(got) != 1 || !samePane(got[0], p) {
			t.Fatal(got)
		}
	}
	a := impl.Pane{Key: 2, To: 5, N: 1, Vals: []int{1}}
	b := impl.Pane{Key: 1, From: 3, To: 4, N: 1, Vals: []int{2}}
	c := impl.Pane{Key: 1, From: 3, To: 4, N: 1, Vals: []int{3}}
	if got := checkSort(t, []impl.Pane{a, b, c}); !samePanes(got, []impl.Pane{b, c, a}) {
		t.Fatal(got)
	}
	if got := checkSort(t, []impl.Pane{c, a, b}); !samePanes(got, []impl.Pane{c, b, a}) {
		t.Fatal(got)
	}
}

// Each pane has a number of its own, so that the order of equal ones is seen.
func TestP10SortIsStable(t *testing.T) {
	kinds := [][4]int{{0, 0, 0, 1}, {0, 0, 0, 2}, {0, 1, 0, 1}, {1, 0, -1, 0}}
	everyList([]int{0, 1, 2, 3}, 6, func(which []int) {
		list := []impl.Pane{}
		for i, k := range which {
			list = append(list, fieldPane(kinds[k], len(which)-i))
		}
		checkSort(t, list)
	})
}

func TestP10SortLongLists(t *testing.T) {
	draw := draws()
	for _, size := range []int{11, 12, 13, 19, 20, 21, 40, 41, 100, 300, 1000} {
		for _, spread := range []int{1, 2, 3, 50} {
			list := []impl.Pane{}
			for i := range size {
				p := fieldPane([4]int{draw(spread) - 1, draw(spread), draw(spread) * 100, draw(spread)}, draw(3))
				p.Label, p.Vals, p.Over = draw(16), []int{i}, draw(2) == 1
				list = append(list, p)
			}
			got := checkSort(t, list)
			for i := 1; i < len(got); i++ {
				if impl.PaneLess(got[i], got[i-1]) || !impl.PaneLess(got[i-1], got[i]) && got[i-1].Vals[0] >= got[i].Vals[0] {
					t.Fatalf("%v before %v", got[i-1], got[i])
				}
			}
			if !samePanes(impl.PanesSort(got), got) {
				t.Fatal("a sorted list is changed")
			}
		}
	}
}

func TestPaneOfEveryAggregate(t *testing.T) {
	check := func(list []int) {
		for kind := 0; kind <= 7; kind++ {
			for _, k := range []int{-1, 0, 1, 2, 3, 4, 5} {
				checkPaneOf(t, 1, queryFor(t, kind, k), 3, win(0, 10), 2, list)
			}
		}
	}
	everyBag([]int{-3, 0, 2}, 6, check)
	everyBag(limitsOfInt(), 4, check)
	draw := draws()
	for range 100 {
		check(drawList(draw, 1+draw(200)))
	}
}

func TestPaneOfDocumentedResults(t *testing.T) {
	for _, c := range []struct {
		kind, k int
		list    []int
		vals    []int
		over    bool
	}{
		{impl.AggCount, 0, []int{4, 5, 9}, []int{3}, false},
		{impl.AggSum, 0, []int{4, 5}, []int{9}, false},
		{impl.AggMin, 0, []int{4, -5}, []int{-5}, false},
		{impl.AggMax, 0, []int{4, -5}, []int{4}, false},
		{impl.AggMean, 0, []int{-7, 0}, []int{-4}, false},
		{impl.AggTop, 1, []int{4, 5, 3}, []int{5}, false},
		{impl.AggTop, 4, []int{4, 5, 3}, []int{5, 4, 3}, false},
		{impl.AggTop, 4, []int{4, 5, 3, 9, 9}, []int{9, 9, 5, 4}, false},
		{impl.AggTop, 2, []int{math.MinInt}, []int{math.MinInt}, false},
		{impl.AggSum, 0, []int{math.MaxInt}, []int{math.MaxInt}, false},
		{impl.AggSum, 0, []int{math.MaxInt, 1}, nil, true},
		{impl.AggSum, 0, []int{math.MinInt, -1}, nil, true},
		{impl.AggSum, 0, []int{math.MinInt, -1, 1}, []int{math.MinInt}, false},
		{impl.AggMean, 0, []int{math.MaxInt, math.MaxInt}, []int{math.MaxInt}, false},
		{impl.AggTop, 4, []int{math.MaxInt, math.MaxInt}, []int{math.MaxInt, math.MaxInt}, false},
		{impl.AggMax, 0, []int{math.MaxInt, math.MaxInt}, []int{math.MaxInt}, false},
		{impl.AggCount, 0, []int{math.MaxInt, math.MaxInt}, []int{2}, false},
	} {
		got, ok := checkPaneOf(t, 3, queryFor(t, c.kind, c.k), 15, win(1099, 1100), 15, c.list)
		want := impl.Pane{Query: 3, Key: 15, From: 1099, To: 1100, Label: 15, N: len(c.list), Vals: c.vals, Over: c.over}
		if !ok || !samePane(got, want) {
			t.Fatalf("%v: %v and %v", c, got, ok)
		}
	}
}

func TestPaneOfManyNumbers(t *testing.T) {
	full := slices.Repeat([]int{math.MaxInt}, impl.MaxCount)
	for kind := impl.AggCount; kind <= impl.AggTop; kind++ {
		q := queryFor(t, kind, 0)
		if kind == impl.AggTop {
			q.K = impl.MaxTop
		}
		if p, ok := checkPaneOf(t, 0, q, 0, win(0, 1), 0, full); !ok || p.N != impl.MaxCount || p.Over != (kind == impl.AggSum) {
			t.Fatal(p, ok)
		}
		// AggOf of a longer list is the empty aggregate.
		refusePaneOf(t, 0, q, 0, win(0, 1), 0, impl.AggOf(append(full, 1)))
	}
}

func TestPaneOfFieldsAtTheirLimits(t *testing.T) {
	q := queryFor(t, impl.AggSum, 0)
	sum, over := []int{4, 5}, []int{math.MaxInt, 5}
	for _, list := range [][]int{sum, over, nil} {
		for _, n := range append(numbersAround(0, 15), numbersAround(0, 3)...) {
			_, id := checkPaneOf(t, n, q, 3, win(0, 10), 2, list)
			_, key := checkPaneOf(t, 1, q, n, win(0, 10), 2, list)
			_, label := checkPaneOf(t, 1, q, 3, win(0, 10), n, list)
			some := len(list) > 0
			if id != (some && n >= 0 && n <= 3) || key != (some && n >= 0 && n <= 15) || label != (some && n >= 0 && n <= 15) {
				t.Fatalf("%d: %v, %v and %v", n, id, key, label)
			}
		}
		for _, from := range []int{math.MinInt, -1, 0, 1, 9, 10, 11, 1000, 1099, 1100, math.MaxInt} {
			for _, to := range []int{math.MinInt, -1, 0, 1, 9, 10, 11, 1000, 1099, 1100, 1101, math.MaxInt} {
				checkPaneOf(t, 1, q, 3, win(from, to), 2, list)
			}
		}
	}
}

// The window of a pane is any valid one: it need not be one of the query's windows.
func TestPaneOfAnyWindow(t *testing.T) {
	for _, d := range []impl.WinDef{tumbling(10), sliding(6, 3), sessions(4)} {
		q := queryFor(t, impl.AggMin, 0)
		q.Win = d
		for _, w := range []impl.Win{win(0, 10), win(3, 9), win(1, 2), win(0, 1100), win(1099, 1100)} {
			if p, ok := checkPaneOf(t, 0, q, 0, w, 0, []int{4, 5}); !ok || p.From != w.From || p.To != w.To {
				t.Fatal(p, ok)
			}
		}
	}
}

func TestPaneOfInvalidAggregates(t *testing.T) {
	for _, a := range badAggs() {
		for kind := impl.AggCount; kind <= impl.AggTop; kind++ {
			for _, k := range []int{0, 1, 4} {
				refusePaneOf(t, 1, queryFor(t, kind, k), 3, win(0, 10), 2, a)
			}
		}
	}
}

func TestQueriesLeaveArguments(t *testing.T) {
	filter := []impl.Tok{{Op: impl.OpVal}, {N: 2}, {Op: impl.OpMul}, {Op: 99, N: 99}, {Op: impl.OpNot}}
	value := []impl.Tok{{Op: impl.OpVal}, {Op: impl.OpKey}, {Op: impl.OpAdd}, {Op: impl.OpAdd}}
	top := []int{9, 7, 5, 3, 40, 50}
	keptFilter, keptValue, keptTop := slices.Clone(filter), slices.Clone(value), slices.Clone(top)
	// What lies beyond the length of a list does not count.
	q := impl.Query{Filter: filter[:3], Map: value[:3], Win: sessions(5), Kind: impl.AggTop, K: 4}
	a := impl.Agg{N: 4, Sum: impl.WideOf(24), Min: 3, Max: 9, Top: top[:4]}
	for range 2 {
		if !impl.QueryOk(q) {
			t.Fatal(q)
		}
		if v, code := checkTake(t, q, impl.Elem{Key: 3, Val: 4}); v != 7 || code != impl.TakeFine {
			t.Fatal(v, code)
		}
		for k := 1; k <= 4; k++ {
			q.K = k
			p, ok := impl.PaneOf(0, q, 0, win(0, 5), 0, a)
			if !ok || !slices.Equal(p.Vals, keptTop[:k]) {
				t.Fatal(p, ok)
			}
			spoilNumbers(p.Vals)
		}
		if !sameExpr(filter, keptFilter) || !sameExpr(value, keptValue) || !slices.Equal(top, keptTop) {
			t.Fatal("an argument is changed, or a result shares memory with it")
		}
	}
}

func TestPanesMemory(t *testing.T) {
	vals := []int{1, 2, 3, 77, 78}
	whole := []impl.Pane{
		{Query: 2, Vals: vals[:3]}, {Query: 1, Vals: vals[:2]}, {Query: 3, Vals: vals[1:3]}, {Query: 1, Vals: vals[:0]}, {Query: 0, Vals: []int{5, 6, 7, 8, 9}}, {Query: 1, Over: true},
		{Query: -9, Vals: []int{99}}, {Query: 9},
	}
	kept, keptVals := copyPanes(whole), slices.Clone(vals)
	// What lies beyond the length of a list is neither sorted nor changed.
	list := whole[:6]
	for _, part := range [][]impl.Pane{list, list[:0], list[:1], list} {
		got := checkSort(t, part)
		for i := range got {
			before := copyPanes(got)
			spoilNumbers(got[i].Vals)
			for k := range got {
				if k != i && !samePane(got[k], before[k]) {
					t.Fatalf("%v shares memory with %v", before[k], before[i])
				}
			}
		}
		clear(got[:cap(got)])
		if !samePanes(whole, kept) || !slices.Equal(vals, keptVals) {
			t.Fatal("an argument is changed, or a result shares memory with it")
		}
	}
	// A sorted list is copied, too.
	sorted := checkSort(t, list)
	again := checkSort(t, sorted)
	again[0].Vals[0], again[1] = -1, impl.Pane{}
	if !samePanes(sorted, plainSorted(list)) {
		t.Fatal("a result shares memory with an argument")
	}
}
