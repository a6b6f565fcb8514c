package tests

import (
	"math"
	"slices"
	"testing"

	"loop.example/g00699/impl"
)

// arrival is all that CellsAdd is given beside the list.
type arrival struct {
	id    int
	d     impl.WinDef
	key   int
	time  int
	label int
	v     int
}

func cellFields(c impl.Cell) []int { return []int{c.Query, c.Key, c.From, c.To, c.Label} }

func plainCellOk(c impl.Cell) bool {
	inRange := c.Query >= 0 && c.Query <= 3 && c.Key >= 0 && c.Key <= 15 && c.Label >= 0 && c.Label <= 15
	return inRange && plainWinOk(win(c.From, c.To)) && c.Agg.N >= 1 && impl.AggOk(c.Agg)
}

func plainCellsOk(list []impl.Cell) bool {
	for i, c := range list {
		if !plainCellOk(c) || i > 0 && slices.Compare(cellFields(list[i-1]), cellFields(c)) >= 0 {
			return false
		}
	}
	return len(list) <= 10000
}

func sortedCells(list []impl.Cell) []impl.Cell {
	list = slices.Clone(list)
	slices.SortFunc(list, func(a impl.Cell, b impl.Cell) int { return slices.Compare(cellFields(a), cellFields(b)) })
	return list
}

func sameWin(a impl.Cell, b impl.Cell) bool { return a.From == b.From && a.To == b.To }

func plainOverlap(a impl.Cell, b impl.Cell) bool { return a.From < b.To && b.From < a.To }

// plainGroups divides cells in any order into groups of which each is linked to its members; the last cell is in the last group.
func plainGroups(list []impl.Cell, linked func(a impl.Cell, b impl.Cell) bool) [][]impl.Cell {
	groups := [][]impl.Cell{}
	for _, c := range list {
		group, others := []impl.Cell{c}, [][]impl.Cell{}
		for _, g := range groups {
			if slices.ContainsFunc(g, func(other impl.Cell) bool { return linked(c, other) }) {
				group = append(group, g...)
			} else {
				others = append(others, g)
			}
		}
		groups = append(others, group)
	}
	return groups
}

// plainUnited makes one cell of a group; join is applied to the labels, two by two.
func plainUnited(group []impl.Cell, join func(a int, b int) int) (impl.Cell, bool) {
	one := group[0]
	for _, c := range group[1:] {
		sum, ok := impl.AggJoin(one.Agg, c.Agg)
		if !ok {
			return impl.Cell{}, false
		}
		one.From, one.To, one.Label, one.Agg = min(one.From, c.From), max(one.To, c.To), join(one.Label, c.Label), sum
	}
	return one, true
}

func plainWinsAt(d impl.WinDef, time int) []impl.Win {
	if d.Kind == impl.WinSession {
		return []impl.Win{{From: time, To: time + d.Size}}
	}
	return slices.DeleteFunc(plainWinsOfKind(d), func(w impl.Win) bool { return !plainContains(w, time) })
}

func plainArrivalOk(a arrival) bool {
	return plainDefOk(a.d) && a.id >= 0 && a.id <= 3 && a.key >= 0 && a.key <= 15 && a.label >= 0 && a.label <= 15 && a.time >= 0 && a.time <= 1000
}

func plainCellsAdd(list []impl.Cell, a arrival) ([]impl.Cell, bool) {
	if !plainCellsOk(list) || !plainArrivalOk(a) {
		return nil, false
	}
	linked, result := sameWin, slices.Clone(list)
	if a.d.Kind == impl.WinSession {
		linked = plainOverlap
	}
	for _, w := range plainWinsAt(a.d, a.time) {
		others, mine := []impl.Cell{}, []impl.Cell{}
		for _, c := range result {
			if c.Query == a.id && c.Key == a.key && c.Label == a.label {
				mine = append(mine, c)
			} else {
				others = append(others, c)
			}
		}
		groups := plainGroups(append(mine, cell(a.id, a.key, w.From, w.To, a.label, a.v)), linked)
		one, ok := plainUnited(groups[len(groups)-1], func(x int, y int) int { return x })
		if !ok {
			return nil, false
		}
		result = append(append(others, slices.Concat(groups[:len(groups)-1]...)...), one)
	}
	if len(result) > 10000 {
		return nil, false
	}
	return sortedCells(result), true
}

func plainSeen(l impl.Lat, list []impl.Cell, clearance int, listed []int) ([]impl.Cell, bool) {
	if !plainOk(l) || !plainCellsOk(list) || clearance < 0 || clearance >= l.N {
		return nil, false
	}
	visible, result := []impl.Cell{}, []impl.Cell{}
	for _, c := range list {
		if c.Label >= l.N {
			return nil, false
		}
		if plainLe(l, c.Label, clearance) {
			visible = append(visible, c)
		}
	}
	linked := func(a impl.Cell, b impl.Cell) bool {
		session := slices.Contains(listed, a.Query) && plainOverlap(a, b)
		return a.Query == b.Query && a.Key == b.Key && (sameWin(a, b) || session)
	}
	for _, group := range plainGroups(visible, linked) {
		one, ok := plainUnited(group, func(a int, b int) int { return plainJoin(l, a, b) })
		if !ok {
			return nil, false
		}
		result = append(result, one)
	}
	return sortedCells(result), true
}

func plainDue(list []impl.Cell, from int, to int) []impl.Cell {
	return slices.DeleteFunc(slices.Clone(list), func(c impl.Cell) bool { return !plainCellsOk(list) || c.To <= from || c.To > to })
}

// plainLeft looks for each cell at all that the top label sees.
func plainLeft(l impl.Lat, list []impl.Cell, mark int, listed []int) ([]impl.Cell, bool) {
	if !plainOk(l) {
		return nil, false
	}
	seen, ok := plainSeen(l, list, plainTop(l), listed)
	if !ok {
		return nil, false
	}
	return slices.DeleteFunc(slices.Clone(list), func(c impl.Cell) bool {
		return slices.ContainsFunc(seen, func(s impl.Cell) bool {
			return s.Query == c.Query && s.Key == c.Key && s.From <= c.From && c.To <= s.To && s.To <= mark
		})
	}), true
}

func plainOfLabel(list []impl.Cell, label int) []impl.Cell {
	return slices.DeleteFunc(slices.Clone(list), func(c impl.Cell) bool { return !plainCellsOk(list) || c.Label != label })
}

// plainView returns what a clearance sees, from the elements alone: no cells are made of them before.
func plainView(l impl.Lat, elems []arrival, clearance int) []impl.Cell {
	result := []impl.Cell{}
	for id := range 4 {
		for key := range 16 {
			mine, wins := []arrival{}, []impl.Win{}
			for _, a := range elems {
				if a.id == id && a.key == key && plainLe(l, a.label, clearance) {
					mine, wins = append(mine, a), append(wins, plainWinsAt(a.d, a.time)...)
				}
			}
			if len(mine) > 0 && mine[0].d.Kind == impl.WinSession {
				wins = plainMerged(wins)
			}
			for _, w := range wins {
				c := plainViewCell(l, mine, w)
				if !slices.ContainsFunc(result, func(o impl.Cell) bool { return slices.Equal(cellFields(o), cellFields(c)) }) {
					result = append(result, c)
				}
			}
		}
	}
	return sortedCells(result)
}

// plainViewCell makes the cell of those elements, all of one query and key, whose times lie in a window.
func plainViewCell(l impl.Lat, mine []arrival, w impl.Win) impl.Cell {
	numbers, labels := []int{}, []int{}
	for _, a := range mine {
		if plainContains(w, a.time) {
			numbers, labels = append(numbers, a.v), append(labels, a.label)
		}
	}
	c := cell(mine[0].id, mine[0].key, w.From, w.To, labels[0])
	for _, label := range labels {
		c.Label = plainJoin(l, c.Label, label)
	}
	c.Agg = plainAgg(numbers)
	return c
}

// cell makes a cell of these numbers.
func cell(id int, key int, from int, to int, label int, numbers ...int) impl.Cell {
	return impl.Cell{Query: id, Key: key, From: from, To: to, Label: label, Agg: impl.AggOf(numbers)}
}

// zeros returns the aggregate of n zeros.
func zeros(n int) impl.Agg { return impl.Agg{N: n, Top: make([]int, min(n, 4))} }

// sess is a cell of query 1 and key 3, as most tests of sessions need.
func sess(from int, to int, label int, numbers ...int) impl.Cell {
	return cell(1, 3, from, to, label, numbers...)
}

func sameCell(a impl.Cell, b impl.Cell) bool {
	return slices.Equal(cellFields(a), cellFields(b)) && sameAgg(a.Agg, b.Agg)
}

func sameCells(a []impl.Cell, b []impl.Cell) bool { return slices.EqualFunc(a, b, sameCell) }

func copyCells(list []impl.Cell) []impl.Cell {
	list = slices.Clone(list)
	for i := range list {
		list[i].Agg = copyAgg(list[i].Agg)
	}
	return list
}

// fewCells cuts a list for a message.
func fewCells(list []impl.Cell) []impl.Cell { return list[:min(len(list), 20)] }

func checkSame(t *testing.T, what string, list []impl.Cell, got []impl.Cell, ok bool, want []impl.Cell, wantOk bool) {
	t.Helper()
	if ok != wantOk || !sameCells(got, want) {
		t.Fatalf("%s of %d cells %v = %v and %v, not %v and %v", what, len(list), fewCells(list), fewCells(got), ok, fewCells(want), wantOk)
	}
	if !impl.CellsOk(got) {
		t.Fatalf("%s of %v = %v, which is not valid", what, fewCells(list), fewCells(got))
	}
}

func checkKept(t *testing.T, list []impl.Cell, kept []impl.Cell) {
	t.Helper()
	if !sameCells(list, kept) {
		t.Fatalf("the argument %v is changed to %v", fewCells(kept), fewCells(list))
	}
}

func addTo(list []impl.Cell, a arrival) ([]impl.Cell, bool) {
	return impl.CellsAdd(list, a.id, a.d, a.key, a.time, a.label, a.v)
}

// checkCellsAdd also checks that only cells of the label are changed, without the reference.
func checkCellsAdd(t *testing.T, list []impl.Cell, a arrival) ([]impl.Cell, bool) {
	t.Helper()
	kept := copyCells(list)
	want, wantOk := plainCellsAdd(list, a)
	got, ok := addTo(list, a)
	checkSame(t, "CellsAdd", list, got, ok, want, wantOk)
	checkKept(t, list, kept)
	if !ok {
		return got, ok
	}
	numbers := 0
	for _, c := range got {
		numbers += c.Agg.N
	}
	for _, c := range list {
		numbers -= c.Agg.N
	}
	if numbers != len(plainWinsAt(a.d, a.time)) {
		t.Fatalf("%v adds %d numbers", a, numbers)
	}
	own := func(c impl.Cell) bool { return c.Label == a.label }
	if others := slices.DeleteFunc(kept, own); !sameCells(slices.DeleteFunc(slices.Clone(got), own), others) {
		t.Fatalf("%v changes cells of another label: %v become %v", a, fewCells(list), fewCells(got))
	}
	return got, ok
}

func mustCells(t *testing.T, list []impl.Cell, elems ...arrival) []impl.Cell {
	t.Helper()
	for _, a := range elems {
		next, ok := checkCellsAdd(t, list, a)
		if !ok {
			t.Fatalf("%v is not added to %v", a, fewCells(list))
		}
		list = next
	}
	return list
}

func checkSeen(t *testing.T, l impl.Lat, list []impl.Cell, clearance int, listed []int) ([]impl.Cell, bool) {
	t.Helper()
	kept, keptUp, keptListed := copyCells(list), slices.Clone(l.Up), slices.Clone(listed)
	want, wantOk := plainSeen(l, list, clearance, listed)
	got, ok := impl.CellsSeen(l, list, clearance, listed)
	checkSame(t, "CellsSeen", list, got, ok, want, wantOk)
	checkKept(t, list, kept)
	if !slices.Equal(l.Up, keptUp) || !slices.Equal(listed, keptListed) {
		t.Fatal("an argument is changed")
	}
	return got, ok
}

func mustSee(t *testing.T, l impl.Lat, list []impl.Cell, clearance int, listed ...int) []impl.Cell {
	t.Helper()
	got, ok := checkSeen(t, l, list, clearance, listed)
	if !ok {
		t.Fatalf("%d sees nothing of %v", clearance, fewCells(list))
	}
	return got
}

func checkLeft(t *testing.T, l impl.Lat, list []impl.Cell, mark int, listed []int) ([]impl.Cell, bool) {
	t.Helper()
	kept, keptUp, keptListed := copyCells(list), slices.Clone(l.Up), slices.Clone(listed)
	want, wantOk := plainLeft(l, list, mark, listed)
	got, ok := impl.CellsLeft(l, list, mark, listed)
	checkSame(t, "CellsLeft", list, got, ok, want, wantOk)
	checkKept(t, list, kept)
	if !slices.Equal(l.Up, keptUp) || !slices.Equal(listed, keptListed) {
		t.Fatal("an argument is changed")
	}
	return got, ok
}

func mustLeave(t *testing.T, l impl.Lat, list []impl.Cell, mark int, listed ...int) []impl.Cell {
	t.Helper()
	got, ok := checkLeft(t, l, list, mark, listed)
	if !ok {
		t.Fatalf("nothing is left of %v", fewCells(list))
	}
	return got
}

func checkDue(t *testing.T, list []impl.Cell, from int, to int) []impl.Cell {
	t.Helper()
	kept := copyCells(list)
	got := impl.CellsDue(list, from, to)
	checkSame(t, "CellsDue", list, got, true, plainDue(list, from, to), true)
	checkKept(t, list, kept)
	return got
}

func checkOfLabel(t *testing.T, list []impl.Cell, label int) []impl.Cell {
	t.Helper()
	kept := copyCells(list)
	got := impl.CellsOf(list, label)
	checkSame(t, "CellsOf", list, got, true, plainOfLabel(list, label), true)
	checkKept(t, list, kept)
	return got
}

func countsByPlace(list []impl.Cell) map[[2]int]int {
	counts := map[[2]int]int{}
	for _, c := range list {
		counts[[2]int{c.Query, c.Key}] += c.Agg.N
	}
	return counts
}

// checkViews compares what all clearances see; a higher one sees no fewer elements, of no query and key.
func checkViews(t *testing.T, l impl.Lat, list []impl.Cell, listed ...int) {
	t.Helper()
	views := [][]impl.Cell{}
	for clearance := range l.N {
		views = append(views, mustSee(t, l, list, clearance, listed...))
		for _, c := range views[clearance] {
			if !plainLe(l, c.Label, clearance) {
				t.Fatalf("%d sees %v", clearance, c)
			}
		}
	}
	for low := range l.N {
		for high := range l.N {
			if !plainLe(l, low, high) {
				continue
			}
			more := countsByPlace(views[high])
			for at, n := range countsByPlace(views[low]) {
				if n > more[at] {
					t.Fatalf("%d sees %d elements of %v, and %d sees %d", low, n, at, high, more[at])
				}
			}
		}
	}
}

// checkMarks checks, for all clearances, that nothing is missing from windows that end after a mark, without the reference.
func checkMarks(t *testing.T, l impl.Lat, list []impl.Cell, marks []int, listed ...int) {
	t.Helper()
	for _, mark := range marks {
		left := mustLeave(t, l, list, mark, listed...)
		for clearance := range l.N {
			before := checkDue(t, mustSee(t, l, list, clearance, listed...), mark, math.MaxInt)
			after := checkDue(t, mustSee(t, l, left, clearance, listed...), mark, math.MaxInt)
			if !sameCells(before, after) {
				t.Fatalf("at %d, %d sees %v instead of %v", mark, clearance, after, before)
			}
		}
		if !sameCells(mustLeave(t, l, left, mark, listed...), left) {
			t.Fatalf("at %d cells are removed from %v again", mark, left)
		}
	}
}

// badLists returns a list for each reason why one is not valid, except that there are too many cells.
func badLists() [][]impl.Cell {
	good := func() []impl.Cell {
		return []impl.Cell{cell(0, 0, 0, 5, 0, 1), cell(1, 3, 1, 5, 0, 2), cell(1, 3, 4, 9, 1, 3), cell(3, 15, 7, 1100, 1, 4)}
	}
	swapped, twice, alike := good(), slices.Insert(good(), 1, good()[1]), slices.Insert(good(), 1, cell(1, 3, 1, 5, 0, 9))
	swapped[1], swapped[2] = swapped[2], swapped[1]
	lists := [][]impl.Cell{swapped, twice, alike}
	for i := range 4 {
		for _, spoil := range []func(c *impl.Cell){
			func(c *impl.Cell) { *c = impl.Cell{} },
			func(c *impl.Cell) { c.Query = -1 },
			func(c *impl.Cell) { c.Query = 4 },
			func(c *impl.Cell) { c.Key = -1 },
			func(c *impl.Cell) { c.Key = 16 },
			func(c *impl.Cell) { c.From = -1 },
			func(c *impl.Cell) { c.From = c.To },
			func(c *impl.Cell) { c.To = 1101 },
			func(c *impl.Cell) { c.To = math.MinInt },
			func(c *impl.Cell) { c.Label = -1 },
			func(c *impl.Cell) { c.Label = 16 },
			func(c *impl.Cell) { c.Agg = impl.Agg{} },
			func(c *impl.Cell) { c.Agg.N = 2 },
			func(c *impl.Cell) { c.Agg.Top = nil },
			func(c *impl.Cell) { c.Agg.Sum.Hi++ },
		} {
			list := good()
			spoil(&list[i])
			lists = append(lists, list)
		}
	}
	return lists
}

// refuseCells checks what every function answers for a list that is not valid.
func refuseCells(t *testing.T, list []impl.Cell) {
	t.Helper()
	kept, l := copyCells(list), diamond(t)
	if impl.CellsOk(list) {
		t.Fatalf("%v is valid", fewCells(list))
	}
	for _, d := range []impl.WinDef{tumbling(5), sliding(6, 3), sessions(4)} {
		if got, ok := impl.CellsAdd(list, 1, d, 3, 7, 1, 5); ok || len(got) > 0 {
			t.Fatalf("an element is added to %v", fewCells(list))
		}
	}
	for n := range 5 {
		seen, seeing := impl.CellsSeen(l, list, n, []int{1})
		left, leaving := impl.CellsLeft(l, list, n*300, []int{1})
		if seeing || leaving || len(seen)+len(left) > 0 {
			t.Fatalf("%v is used", fewCells(list))
		}
		if len(impl.CellsDue(list, 0, n*300))+len(impl.CellsOf(list, n)) > 0 {
			t.Fatalf("%v is used", fewCells(list))
		}
	}
	checkKept(t, list, kept)
}

// fullCells returns MaxCells cells: 8..10 of query 0 and key 0, and 0..2, 3..5 and so on of query 3 and all keys, each with all labels.
func fullCells() []impl.Cell {
	list := []impl.Cell{}
	for i := range 16 {
		list = append(list, cell(0, 0, 8, 10, i, i))
	}
	for key := range 16 {
		for from := 0; from < 39; from++ {
			for label := range 16 {
				list = append(list, cell(3, key, 3*from, 3*from+2, label, 1))
			}
		}
	}
	return list
}

// everySubset calls use with all sublists, in order.
func everySubset(list []impl.Cell, use func(part []impl.Cell)) {
	for mask := range 1 << len(list) {
		part := []impl.Cell{}
		for i, c := range list {
			if mask>>i&1 == 1 {
				part = append(part, c)
			}
		}
		use(part)
	}
}

// everyOrder calls use with the elements in every order.
func everyOrder(elems []arrival, use func(elems []arrival)) {
	elems = slices.Clone(elems)
	var place func(n int)
	place = func(n int) {
		if n == len(elems) {
			use(elems)
			return
		}
		for i := n; i < len(elems); i++ {
			elems[n], elems[i] = elems[i], elems[n]
			place(n + 1)
			elems[n], elems[i] = elems[i], elems[n]
		}
	}
	place(0)
}

// added returns the cells of elements, without the reference.
func added(t *testing.T, elems []arrival) []impl.Cell {
	t.Helper()
	list := []impl.Cell{}
	for _, a := range elems {
		next, ok := addTo(list, a)
		if !ok {
			t.Fatalf("%v is not added", a)
		}
		list = next
	}
	return list
}

func atSession(time int, label int, v int) arrival {
	return arrival{id: 1, d: sessions(4), key: 3, time: time, label: label, v: v}
}

func TestCellLimits(t *testing.T) {
	if impl.MaxCells != 10000 {
		t.Fatal("limits")
	}
}

func TestCellOkFieldsAtTheirLimits(t *testing.T) {
	for _, c := range []struct {
		least, most int
		put         func(c *impl.Cell, n int)
	}{
		{0, 3, func(c *impl.Cell, n int) { c.Query = n }},
		{0, 15, func(c *impl.Cell, n int) { c.Key = n }},
		{0, 9, func(c *impl.Cell, n int) { c.From = n }},
		{6, 1100, func(c *impl.Cell, n int) { c.To = n }},
		{0, 15, func(c *impl.Cell, n int) { c.Label = n }},
	} {
		for _, n := range []int{math.MinInt, math.MinInt + 1, -1 << 32, -2, c.least - 1, c.least, c.least + 1, c.most - 1, c.most, c.most + 1, 1<<32 + c.least, math.MaxInt} {
			one := cell(2, 2, 5, 10, 2, 7)
			c.put(&one, n)
			want := n >= c.least && n <= c.most
			if impl.CellOk(one) != want || impl.CellsOk([]impl.Cell{one}) != want {
				t.Fatalf("CellOk(%v) is not %v", one, want)
			}
			if got := checkDue(t, []impl.Cell{one}, 0, 1100); len(got) == 1 != want {
				t.Fatal(got)
			}
		}
	}
	for _, c := range []impl.Cell{cell(0, 0, 0, 1, 0, 0), cell(3, 15, 1099, 1100, 15, math.MinInt), cell(3, 15, 0, 1100, 15, math.MaxInt, math.MaxInt)} {
		if !impl.CellOk(c) || !impl.CellsOk([]impl.Cell{c}) {
			t.Fatal(c)
		}
	}
	times := []int{math.MinInt, -1, 0, 1, 5, 1000, 1099, 1100, 1101, 1 << 32, math.MaxInt}
	for _, from := range times {
		for _, to := range times {
			if c := cell(0, 0, from, to, 0, 7); impl.CellOk(c) != plainWinOk(win(from, to)) {
				t.Fatal(c)
			}
		}
	}
}

func TestCellOkAggregates(t *testing.T) {
	for _, a := range badAggs() {
		c := cell(0, 0, 0, 5, 0)
		c.Agg = a
		if impl.CellOk(c) {
			t.Fatalf("%v is valid", c)
		}
		refuseCells(t, []impl.Cell{c})
		refuseCells(t, []impl.Cell{cell(0, 0, 0, 4, 0, 1), c, cell(0, 0, 0, 6, 0, 1)})
	}
	if impl.CellOk(impl.Cell{To: 5}) || impl.CellOk(impl.Cell{}) {
		t.Fatal("an empty aggregate")
	}
	for _, a := range []impl.Agg{zeros(1), zeros(3), zeros(4), zeros(5), zeros(999999), zeros(1000000), impl.AggOf([]int{3, 1, 2, 5, 4}), impl.AggOf(limitsOfInt())} {
		c := cell(0, 0, 0, 5, 0)
		c.Agg = a
		if !impl.CellOk(c) {
			t.Fatalf("%v is not valid", c)
		}
	}
	over := cell(0, 0, 0, 5, 0)
	over.Agg = zeros(1000001)
	if impl.CellOk(over) {
		t.Fatal(over)
	}
}

func TestCellsOkByOneFieldAlone(t *testing.T) {
	at := func(f [5]int) impl.Cell { return cell(f[0], f[1], f[2], f[3], f[4], 7) }
	for field := range 5 {
		low := [5]int{1, 1, 1, 10, 1}
		high := low
		high[field]++
		if a, b := at(low), at(high); !impl.CellsOk([]impl.Cell{a, b}) || impl.CellsOk([]impl.Cell{b, a}) || impl.CellsOk([]impl.Cell{a, a}) {
			t.Fatalf("the field %d does not count", field)
		}
		// What counts less must not outweigh the field.
		for after := field + 1; after < 5; after++ {
			low[after] += 3
			if a, b := at(low), at(high); !impl.CellsOk([]impl.Cell{a, b}) || impl.CellsOk([]impl.Cell{b, a}) {
				t.Fatalf("the field %d counts more than the field %d", after, field)
			}
		}
	}
	// The aggregates make no difference.
	for _, numbers := range [][]int{{7}, {8}, {6, 9}} {
		refuseCells(t, []impl.Cell{cell(1, 1, 1, 10, 1, 7), cell(1, 1, 1, 10, 1, numbers...)})
	}
}

func TestCellsOkEveryThree(t *testing.T) {
	list := []impl.Cell{}
	for code := range 32 {
		list = append(list, cell(code>>4&1, code>>3&1, code>>2&1, 2+code>>1&1, code&1, code))
	}
	list = sortedCells(list)
	for i, a := range list {
		for k, b := range list {
			if got := impl.CellsOk([]impl.Cell{a, b}); got != plainCellsOk([]impl.Cell{a, b}) {
				t.Fatalf("%v and %v: %v", a, b, got)
			}
			for m, c := range list {
				if got := impl.CellsOk([]impl.Cell{a, b, c}); got != plainCellsOk([]impl.Cell{a, b, c}) || got && (i > k || k > m) {
					t.Fatalf("%v, %v and %v: %v", a, b, c, got)
				}
			}
		}
	}
}

func TestCellsOfNothing(t *testing.T) {
	for _, list := range [][]impl.Cell{nil, {}} {
		if !impl.CellsOk(list) {
			t.Fatal("the empty list is not valid")
		}
		for _, l := range []impl.Lat{diamond(t), chain(t, 1), chain(t, 16)} {
			checkViews(t, l, list, 0, 1)
			checkMarks(t, l, list, []int{math.MinInt, -1, 0, 1, math.MaxInt}, 0, 1)
		}
		checkDue(t, list, math.MinInt, math.MaxInt)
		checkOfLabel(t, list, 0)
		for _, l := range badLats() {
			for clearance := -1; clearance <= 4; clearance++ {
				if _, ok := checkSeen(t, l, list, clearance, nil); ok {
					t.Fatal(l)
				}
			}
			if _, ok := checkLeft(t, l, list, 5, nil); ok {
				t.Fatal(l)
			}
		}
		if got := mustCells(t, list, atSession(9, 2, 5)); !sameCells(got, []impl.Cell{sess(9, 13, 2, 5)}) {
			t.Fatal(got)
		}
	}
}

func TestCellsInvalidLists(t *testing.T) {
	for _, list := range badLists() {
		refuseCells(t, list)
		for _, listed := range [][]int{nil, {0, 1, 2, 3}} {
			checkSeen(t, diamond(t), list, 3, listed)
			checkLeft(t, diamond(t), list, 500, listed)
		}
		checkDue(t, list, 0, 1100)
		checkOfLabel(t, list, 0)
		checkCellsAdd(t, list, atSession(3, 0, 1))
		checkCellsAdd(t, list, arrival{d: tumbling(5), time: 3})
	}
}

func TestCellsNumberOfCells(t *testing.T) {
	full := fullCells()
	if len(full) != impl.MaxCells || !impl.CellsOk(full) {
		t.Fatal(len(full))
	}
	refuseCells(t, append(slices.Clone(full), cell(3, 15, 1000, 1001, 0, 1)))
	refuseCells(t, slices.Insert(slices.Clone(full), 0, cell(0, 0, 0, 1, 0, 1)))
	l := subsets()
	if seen := mustSeeFull(t, l, full, 15); len(seen) != 625 || seen[0].Label != 15 || seen[0].Agg.N != 16 || seen[624].To != 116 {
		t.Fatal(len(seen))
	}
	if seen := mustSeeFull(t, l, full, 5); len(seen) != 625 || seen[7].Label != 5 || seen[7].Agg.N != 4 {
		t.Fatal(len(seen))
	}
	if got := impl.CellsDue(full, 0, 1100); !sameCells(got, full) {
		t.Fatal(len(got))
	}
	if got := impl.CellsOf(full, 15); len(got) != 625 || got[0].Agg.Max != 15 {
		t.Fatal(len(got))
	}
	for mark, want := range map[int]int{9: 10000 - 3*16*16, 10: 10000 - 16 - 3*16*16, 11: 10000 - 16 - 4*16*16} {
		if got, ok := impl.CellsLeft(l, full, mark, nil); !ok || len(got) != want || !impl.CellsOk(got) {
			t.Fatal(mark, len(got), ok)
		}
	}
	if got, ok := impl.CellsLeft(l, full, 116, []int{3}); !ok || len(got) != 0 {
		t.Fatal(len(got), ok)
	}
}

func mustSeeFull(t *testing.T, l impl.Lat, list []impl.Cell, clearance int) []impl.Cell {
	t.Helper()
	plain, ok := impl.CellsSeen(l, list, clearance, nil)
	listed, again := impl.CellsSeen(l, list, clearance, []int{3, 0})
	if !ok || !again || !sameCells(plain, listed) {
		t.Fatal("cells that do not overlap are combined")
	}
	return plain
}

func TestCellsAddToFullList(t *testing.T) {
	full := fullCells()
	refuse := func(list []impl.Cell, a arrival) {
		t.Helper()
		if got, ok := addTo(list, a); ok || len(got) > 0 {
			t.Fatalf("%v makes %d cells", a, len(got))
		}
	}
	accept := func(list []impl.Cell, a arrival, want int) []impl.Cell {
		t.Helper()
		got, ok := addTo(list, a)
		if !ok || len(got) != want || !impl.CellsOk(got) {
			t.Fatalf("%v makes %d cells", a, len(got))
		}
		return got
	}
	refuse(full, arrival{id: 1, d: tumbling(5), label: 2})
	refuse(full, arrival{id: 1, d: sliding(8, 1), time: 9})
	refuse(full, arrival{id: 3, d: sessions(1), key: 2, time: 2, label: 2})
	refuse(full, arrival{id: 3, d: tumbling(1), key: 2, time: 0, label: 2})
	accept(full[1:], arrival{id: 1, d: tumbling(5), label: 2}, 10000)
	accept(full[1:], arrival{id: 3, d: sessions(1), key: 2, time: 2, label: 2}, 10000)
	refuse(full[1:], arrival{id: 1, d: sliding(2, 1), time: 9})
	accept(full[2:], arrival{id: 1, d: sliding(2, 1), time: 9}, 10000)
	refuse(full[7:], arrival{id: 1, d: sliding(8, 1), time: 9})
	accept(full[8:], arrival{id: 1, d: sliding(8, 1), time: 9}, 10000)
	// What is joined to a cell needs no room, and a session that connects cells makes some.
	if got := accept(full, arrival{d: tumbling(2), time: 9, label: 2, v: 40}, 10000); !sameCell(got[2], cell(0, 0, 8, 10, 2, 2, 40)) {
		t.Fatal(got[2])
	}
	refuse(full, arrival{d: sliding(2, 1), time: 9, label: 2})
	accept(full[1:], arrival{d: sliding(2, 1), time: 9, label: 2}, 10000)
	if got := accept(full, arrival{id: 3, d: sessions(2), time: 1, label: 2}, 10000); !sameCell(got[31], cell(3, 0, 0, 3, 2, 1, 0)) {
		t.Fatal(got[31])
	}
	if got := accept(full, arrival{id: 3, d: sessions(3), time: 1, label: 2}, 9999); !sameCell(got[31], cell(3, 0, 0, 5, 2, 1, 1, 0)) {
		t.Fatal(got[31])
	}
	if got := accept(full, arrival{id: 3, d: sessions(100), time: 1, label: 2}, 9967); !sameCell(got[31], cell(3, 0, 0, 101, 2, append(slices.Repeat([]int{1}, 34), 0)...)) {
		t.Fatal(got[31])
	}
}

func TestCellsDocumentExample(t *testing.T) {
	l := chain(t, 2)
	list := mustCells(t, nil, atSession(1, 0, 5), atSession(10, 0, 7), atSession(4, 1, 9), atSession(7, 1, 1))
	if !sameCells(list, []impl.Cell{sess(1, 5, 0, 5), sess(4, 11, 1, 9, 1), sess(10, 14, 0, 7)}) {
		t.Fatal(list)
	}
	if got := mustSee(t, l, list, 0, 1); !sameCells(got, []impl.Cell{sess(1, 5, 0, 5), sess(10, 14, 0, 7)}) {
		t.Fatal(got)
	}
	if got := mustSee(t, l, list, 1, 1); !sameCells(got, []impl.Cell{sess(1, 14, 1, 5, 9, 1, 7)}) {
		t.Fatal(got)
	}
	// For a query that is not listed, windows that overlap stay apart.
	for _, listed := range [][]int{nil, {}, {0}, {0, 2, 3}, {-1, 4, 5, math.MinInt, math.MaxInt, 1 << 32, 1<<32 + 1}} {
		if got := mustSee(t, l, list, 1, listed...); !sameCells(got, list) {
			t.Fatal(listed, got)
		}
	}
	for _, listed := range [][]int{{1}, {1, 1}, {0, 1, 2, 3}, {3, 1, 1, 0}, {-1, 1, 4}, {math.MaxInt, math.MinInt, 1}} {
		if got := mustSee(t, l, list, 1, listed...); len(got) != 1 || got[0].Agg.N != 4 {
			t.Fatal(listed, got)
		}
	}
	// The low cell 1..5 lies within a session that the higher label extends to 14.
	for mark, want := range map[int]int{-1: 3, 0: 3, 4: 3, 5: 3, 11: 3, 13: 3, 14: 0, 15: 0, 1100: 0, math.MinInt: 3, math.MaxInt: 0} {
		if got := mustLeave(t, l, list, mark, 1); len(got) != want {
			t.Fatalf("%v are left at %d", got, mark)
		}
	}
	for mark, want := range map[int]int{4: 3, 5: 2, 10: 2, 11: 1, 13: 1, 14: 0} {
		if got := mustLeave(t, l, list, mark, 0); len(got) != want {
			t.Fatalf("%v are left at %d", got, mark)
		}
	}
}

func TestCellsAddEveryKindOfWindow(t *testing.T) {
	for _, d := range []impl.WinDef{tumbling(1), tumbling(5), tumbling(100), sliding(6, 3), sliding(8, 1), sliding(100, 13), sliding(7, 7), sessions(1), sessions(4), sessions(100)} {
		for _, time := range []int{0, 1, 7, 99, 100, 101, 999, 1000} {
			a := arrival{id: 2, d: d, key: 9, time: time, label: 5, v: 11}
			one := mustCells(t, nil, a)
			if len(one) != len(impl.WinsOf(d, time)) {
				t.Fatal(a, one)
			}
			for i, w := range impl.WinsOf(d, time) {
				if !sameCell(one[i], cell(2, 9, w.From, w.To, 5, 11)) {
					t.Fatal(a, one)
				}
			}
			a.v = -4
			for i, c := range mustCells(t, one, a) {
				if !sameCell(c, cell(2, 9, one[i].From, one[i].To, 5, 11, -4)) {
					t.Fatal(a, c)
				}
			}
			// The same window of another query, key or label is another cell.
			for _, b := range []arrival{{3, d, 9, time, 5, 1}, {2, d, 10, time, 5, 1}, {2, d, 9, time, 6, 1}, {1, d, 9, time, 5, 1}, {2, d, 8, time, 5, 1}, {2, d, 9, time, 4, 1}} {
				if got := mustCells(t, one, b); len(got) != 2*len(one) {
					t.Fatal(b, got)
				}
			}
		}
	}
}

func TestCellsAddEveryDefinition(t *testing.T) {
	draw := draws()
	everyDef(func(d impl.WinDef) {
		list := []impl.Cell{}
		for _, time := range []int{0, 1000, draw(1001), draw(300), draw(300)} {
			list = mustCells(t, list, arrival{id: draw(2), d: d, key: draw(2), time: time, label: draw(2), v: draw(9)})
		}
	})
}

func TestCellsAddSomeWindowsExist(t *testing.T) {
	d := sliding(6, 3)
	list := mustCells(t, nil, arrival{0, d, 2, 4, 1, 5})
	if !sameCells(list, []impl.Cell{cell(0, 2, 0, 6, 1, 5), cell(0, 2, 3, 9, 1, 5)}) {
		t.Fatal(list)
	}
	if got := mustCells(t, list, arrival{0, d, 2, 7, 1, 9}); !sameCells(got, []impl.Cell{cell(0, 2, 0, 6, 1, 5), cell(0, 2, 3, 9, 1, 5, 9), cell(0, 2, 6, 12, 1, 9)}) {
		t.Fatal(got)
	}
	if got := mustCells(t, list, arrival{0, d, 2, 7, 2, 9}); !sameCells(got, []impl.Cell{cell(0, 2, 0, 6, 1, 5), cell(0, 2, 3, 9, 1, 5), cell(0, 2, 3, 9, 2, 9), cell(0, 2, 6, 12, 2, 9)}) {
		t.Fatal(got)
	}
	// Every part of the eight windows of a time may exist before.
	wins := []impl.Cell{}
	for from := 2; from <= 9; from++ {
		wins = append(wins, cell(0, 2, from, from+8, 1, from))
	}
	everySubset(wins, func(part []impl.Cell) {
		got := mustCells(t, part, arrival{0, sliding(8, 1), 2, 9, 1, 70})
		if len(got) != 8 || got[0].Agg.Max != 70 || got[7].Agg.Max != 70 {
			t.Fatal(got)
		}
	})
	// Windows of another size are other cells, also if they begin or end alike.
	others := []impl.Cell{cell(0, 2, 5, 9, 1, 1), cell(0, 2, 5, 11, 1, 1), cell(0, 2, 6, 10, 1, 1)}
	if got := mustCells(t, others, arrival{0, tumbling(5), 2, 7, 1, 9}); !sameCells(got, []impl.Cell{others[0], cell(0, 2, 5, 10, 1, 9), others[1], others[2]}) {
		t.Fatal(got)
	}
}

func TestCellsAddOverlappingSessions(t *testing.T) {
	list := []impl.Cell{sess(10, 20, 2, 1), sess(30, 40, 2, 2)}
	for _, c := range []struct {
		size, time int
		want       []impl.Cell
	}{
		{5, 5, []impl.Cell{sess(5, 10, 2, 9), list[0], list[1]}},
		{6, 5, []impl.Cell{sess(5, 20, 2, 1, 9), list[1]}},
		{5, 20, []impl.Cell{list[0], sess(20, 25, 2, 9), list[1]}},
		{5, 19, []impl.Cell{sess(10, 24, 2, 1, 9), list[1]}},
		{10, 20, []impl.Cell{list[0], sess(20, 30, 2, 9), list[1]}},
		{11, 20, []impl.Cell{list[0], sess(20, 40, 2, 2, 9)}},
		{11, 19, []impl.Cell{sess(10, 30, 2, 1, 9), list[1]}},
		{12, 19, []impl.Cell{sess(10, 40, 2, 1, 2, 9)}},
		{1, 10, []impl.Cell{sess(10, 20, 2, 1, 9), list[1]}},
		{1, 19, []impl.Cell{sess(10, 20, 2, 1, 9), list[1]}},
		{10, 10, []impl.Cell{sess(10, 20, 2, 1, 9), list[1]}},
		{1, 40, []impl.Cell{list[0], list[1], sess(40, 41, 2, 9)}},
		{1, 39, []impl.Cell{list[0], sess(30, 40, 2, 2, 9)}},
		{100, 0, []impl.Cell{sess(0, 100, 2, 1, 2, 9)}},
		{10, 0, []impl.Cell{sess(0, 10, 2, 9), list[0], list[1]}},
		{100, 1000, []impl.Cell{list[0], list[1], sess(1000, 1100, 2, 9)}},
	} {
		if got := mustCells(t, list, arrival{1, sessions(c.size), 3, c.time, 2, 9}); !sameCells(got, c.want) {
			t.Fatalf("%d at %d: %v", c.size, c.time, got)
		}
		for _, a := range []arrival{{1, sessions(c.size), 3, c.time, 1, 9}, {1, sessions(c.size), 3, c.time, 3, 9}, {1, sessions(c.size), 2, c.time, 2, 9}, {2, sessions(c.size), 3, c.time, 2, 9}} {
			if got := mustCells(t, list, a); len(got) != 3 {
				t.Fatalf("%v: %v", a, got)
			}
		}
	}
}

// Cells of another query, key or label lie between those that are connected, and connect nothing.
func TestCellsAddConnectsOnlyItsOwn(t *testing.T) {
	strangers := []impl.Cell{cell(0, 3, 0, 50, 2, 70), cell(1, 2, 0, 50, 2, 70), sess(0, 50, 1, 70), sess(10, 20, 3, 70), sess(15, 35, 1, 70), sess(18, 32, 3, 70), cell(1, 4, 0, 50, 2, 70), cell(2, 3, 0, 50, 2, 70)}
	own := []impl.Cell{sess(10, 20, 2, 1), sess(30, 40, 2, 2), sess(60, 70, 2, 3)}
	list := sortedCells(append(slices.Clone(own), strangers...))
	for _, a := range []arrival{{1, sessions(12), 3, 19, 2, 9}, {1, sessions(100), 3, 0, 2, 9}} {
		got := mustCells(t, list, a)
		kept := slices.DeleteFunc(slices.Clone(got), func(c impl.Cell) bool {
			return slices.ContainsFunc(strangers, func(s impl.Cell) bool { return sameCell(c, s) })
		})
		if want := mustCells(t, own, a); len(got) != len(kept)+len(strangers) || !sameCells(kept, want) {
			t.Fatalf("%v: %v", a, got)
		}
	}
}

// Lists may hold cells of one label that overlap each other, though CellsAdd makes none.
func TestCellsAddReachesThroughOthers(t *testing.T) {
	links := []impl.Cell{}
	for i := range 40 {
		links = append(links, sess(2*i+10, 2*i+13, 2, i))
	}
	for _, a := range []arrival{{1, sessions(1), 3, 10, 2, 70}, {1, sessions(1), 3, 90, 2, 70}, {1, sessions(1), 3, 50, 2, 70}, {1, sessions(100), 3, 0, 2, 70}, {1, sessions(3), 3, 8, 2, 70}} {
		if got := mustCells(t, links, a); len(got) != 1 || got[0].Agg.N != 41 || got[0].From != min(a.time, 10) {
			t.Fatalf("%v: %v", a, got)
		}
		// Without one link, the rest of the chain is not reached, and stays as it is.
		for gone := range 40 {
			checkCellsAdd(t, slices.Delete(slices.Clone(links), gone, gone+1), a)
		}
	}
	for _, a := range []arrival{{1, sessions(2), 3, 8, 2, 70}, {1, sessions(1), 3, 91, 2, 70}} {
		if got := mustCells(t, links, a); len(got) != 41 {
			t.Fatalf("%v: %v", a, got)
		}
	}
	// A long cell is reached through one that lies within it.
	if got := mustCells(t, []impl.Cell{sess(0, 90, 2, 1), sess(5, 7, 2, 2), sess(89, 92, 2, 3)}, arrival{1, sessions(1), 3, 6, 2, 70}); !sameCells(got, []impl.Cell{sess(0, 92, 2, 1, 2, 3, 70)}) {
		t.Fatal(got)
	}
	if got := mustCells(t, []impl.Cell{sess(1, 3, 2, 1), sess(2, 6, 2, 2), sess(20, 24, 2, 3), sess(22, 26, 2, 4)}, arrival{1, sessions(3), 3, 5, 2, 70}); !sameCells(got, []impl.Cell{sess(1, 8, 2, 1, 2, 70), sess(20, 24, 2, 3), sess(22, 26, 2, 4)}) {
		t.Fatal(got)
	}
}

func TestP11AddToEveryFewCells(t *testing.T) {
	pool := []impl.Cell{}
	for _, label := range []int{0, 1} {
		for _, w := range []impl.Win{win(0, 2), win(1, 3), win(2, 4), win(0, 4), win(5, 7)} {
			pool = append(pool, sess(w.From, w.To, label, len(pool)))
		}
	}
	everySubset(sortedCells(pool), func(part []impl.Cell) {
		for time := range 7 {
			for label := range 3 {
				for _, d := range []impl.WinDef{sessions(1), sessions(2), sessions(3), sliding(2, 1), tumbling(2)} {
					mustCells(t, part, arrival{1, d, 3, time, label, 70})
				}
			}
		}
	})
}

func TestCellsAddCounts(t *testing.T) {
	at := func(from int, to int, n int) impl.Cell { return impl.Cell{From: from, To: to, Agg: zeros(n)} }
	for _, c := range []struct {
		list []impl.Cell
		d    impl.WinDef
		want bool
	}{
		{[]impl.Cell{at(5, 10, 999999)}, tumbling(5), true},
		{[]impl.Cell{at(5, 10, 1000000)}, tumbling(5), false},
		{[]impl.Cell{at(5, 9, 1000000), at(5, 11, 1000000)}, tumbling(5), true},
		{[]impl.Cell{at(3, 9, 999999), at(6, 12, 999999)}, sliding(6, 3), true},
		{[]impl.Cell{at(3, 9, 1000000)}, sliding(6, 3), false},
		{[]impl.Cell{at(6, 12, 1000000)}, sliding(6, 3), false},
		{[]impl.Cell{at(0, 6, 1000000), at(9, 15, 1000000)}, sliding(6, 3), true},
		{[]impl.Cell{at(7, 11, 999999)}, sessions(4), true},
		{[]impl.Cell{at(7, 11, 1000000)}, sessions(4), false},
		{[]impl.Cell{at(3, 7, 1000000), at(11, 12, 1000000)}, sessions(4), true},
		{[]impl.Cell{at(3, 8, 500000), at(10, 12, 499999)}, sessions(4), true},
		{[]impl.Cell{at(3, 8, 500000), at(10, 12, 500000)}, sessions(4), false},
		{[]impl.Cell{at(0, 4, 1), at(3, 8, 499999), at(10, 12, 499999), at(12, 13, 1000000)}, sessions(4), true},
		{[]impl.Cell{at(0, 4, 1), at(3, 8, 499999), at(10, 12, 500000)}, sessions(4), false},
	} {
		got, ok := checkCellsAdd(t, c.list, arrival{d: c.d, time: 7, v: 5})
		if ok != c.want {
			t.Fatalf("%v with %v: %v", c.list, c.d, got)
		}
	}
}

func TestCellsAddInvalid(t *testing.T) {
	lists := [][]impl.Cell{nil, {cell(0, 0, 0, 5, 0, 1), sess(1, 5, 0, 2), sess(4, 9, 1, 3)}}
	good := []arrival{{1, tumbling(5), 3, 7, 1, 5}, {1, sliding(6, 3), 3, 7, 1, 5}, {1, sessions(4), 3, 7, 1, 5}}
	for _, list := range lists {
		for _, a := range good {
			for _, d := range badDefs() {
				b := a
				b.d = d
				if _, ok := checkCellsAdd(t, list, b); ok {
					t.Fatal(b)
				}
			}
			for _, c := range []struct {
				most int
				put  func(a *arrival, n int)
			}{
				{3, func(a *arrival, n int) { a.id = n }},
				{15, func(a *arrival, n int) { a.key = n }},
				{15, func(a *arrival, n int) { a.label = n }},
				{1000, func(a *arrival, n int) { a.time = n }},
			} {
				for _, n := range []int{math.MinInt, math.MinInt + 1, -1 << 32, -100, -2, -1, 0, 1, c.most - 1, c.most, c.most + 1, c.most + 2, 1101, 1 << 32, 1<<32 + 1, math.MaxInt - 100, math.MaxInt} {
					b := a
					c.put(&b, n)
					if _, ok := checkCellsAdd(t, list, b); ok != (n >= 0 && n <= c.most) {
						t.Fatal(b, ok)
					}
				}
			}
			for _, v := range someInts() {
				a.v = v
				mustCells(t, list, a, a, a)
			}
		}
	}
}

func TestCellsSeenLabels(t *testing.T) {
	l := diamond(t)
	list := []impl.Cell{}
	for label := range 4 {
		list = append(list, sess(5, 10, label, 1<<label))
	}
	for clearance, want := range [][]impl.Cell{{sess(5, 10, 0, 1)}, {sess(5, 10, 1, 1, 2)}, {sess(5, 10, 2, 1, 4)}, {sess(5, 10, 3, 1, 2, 4, 8)}} {
		for _, listed := range [][]int{nil, {1}} {
			if got := mustSee(t, l, list, clearance, listed...); !sameCells(got, want) {
				t.Fatalf("%d sees %v", clearance, got)
			}
		}
	}
	// The join of labels beside each other is a third label, of which there need be no cell.
	if got := mustSee(t, l, list[1:3], 3); !sameCells(got, []impl.Cell{sess(5, 10, 3, 2, 4)}) {
		t.Fatal(got)
	}
	if got := mustSee(t, l, []impl.Cell{sess(5, 10, 1, 2), sess(9, 12, 2, 4)}, 3, 1); !sameCells(got, []impl.Cell{sess(5, 12, 3, 2, 4)}) {
		t.Fatal(got)
	}
	// The join is the least label above both, not the clearance.
	all := subsets()
	if got := mustSee(t, all, []impl.Cell{sess(5, 10, 1, 2), sess(5, 10, 4, 4), sess(5, 10, 8, 7)}, 7); !sameCells(got, []impl.Cell{sess(5, 10, 5, 2, 4)}) {
		t.Fatal(got)
	}
	// Labels need not ascend with their numbers.
	top := fan(t, 5)
	if got := mustSee(t, top, []impl.Cell{sess(5, 10, 0, 1), sess(5, 10, 1, 2), sess(5, 10, 4, 3)}, 4); !sameCells(got, []impl.Cell{sess(5, 10, 4, 2, 3)}) {
		t.Fatal(got)
	}
	if got := mustSee(t, top, []impl.Cell{sess(5, 10, 2, 1), sess(5, 10, 3, 2)}, 0); !sameCells(got, []impl.Cell{sess(5, 10, 0, 1, 2)}) {
		t.Fatal(got)
	}
	for _, lat := range []impl.Lat{l, all, top, chain(t, 16), fan(t, 16), chain(t, 4)} {
		full := slices.DeleteFunc(fullCells()[:160], func(c impl.Cell) bool { return c.Label >= lat.N })
		checkViews(t, lat, full)
		checkViews(t, lat, full, 0, 3)
	}
}

func TestCellsSeenHiddenCellsConnectNothing(t *testing.T) {
	l := diamond(t)
	list := []impl.Cell{sess(1, 5, 0, 1), sess(4, 11, 1, 2), sess(4, 11, 2, 3), sess(10, 14, 0, 4), sess(13, 16, 2, 5), sess(16, 20, 1, 6), sess(19, 22, 3, 7)}
	for clearance, want := range [][]impl.Cell{
		{sess(1, 5, 0, 1), sess(10, 14, 0, 4)},
		{sess(1, 14, 1, 1, 2, 4), sess(16, 20, 1, 6)},
		{sess(1, 16, 2, 1, 3, 4, 5)},
		{sess(1, 16, 3, 1, 2, 3, 4, 5), sess(16, 22, 3, 6, 7)},
	} {
		if got := mustSee(t, l, list, clearance, 1); !sameCells(got, want) {
			t.Fatalf("%d sees %v", clearance, got)
		}
	}
	// Other queries and keys connect nothing either, and the next key begins anew.
	list = []impl.Cell{cell(0, 3, 0, 50, 0, 1), cell(1, 2, 0, 50, 0, 1), sess(1, 5, 0, 1), sess(7, 9, 0, 2), cell(1, 4, 2, 8, 0, 3), cell(1, 4, 7, 9, 1, 3), cell(2, 4, 8, 9, 0, 3)}
	if got := mustSee(t, l, list, 0, 0, 1, 2, 3); !sameCells(got, []impl.Cell{list[0], list[1], list[2], list[3], list[4], list[6]}) {
		t.Fatal(got)
	}
	if got := mustSee(t, l, list, 1, 0, 1, 2, 3); len(got) != 6 || !sameCell(got[4], cell(1, 4, 2, 9, 1, 3, 3)) {
		t.Fatal(got)
	}
}

func TestCellsSeenChains(t *testing.T) {
	l := chain(t, 3)
	links := []impl.Cell{}
	for i := range 50 {
		links = append(links, sess(2*i, 2*i+3, i%3, i))
	}
	whole, ok := plainUnited(links, func(a int, b int) int { return 2 })
	if got := mustSee(t, l, links, 2, 1); !ok || !sameCells(got, []impl.Cell{whole}) {
		t.Fatal(got)
	}
	for clearance, want := range []int{17, 17, 1} {
		if got := mustSee(t, l, links, clearance, 1); len(got) != want {
			t.Fatalf("%d sees %v", clearance, got)
		}
	}
	for gone := range 50 {
		part := slices.Delete(slices.Clone(links), gone, gone+1)
		checkViews(t, l, part, 1)
		checkMarks(t, l, part, []int{2*gone + 1, 2*gone + 2, 100, 101, 102}, 1)
	}
	// One long cell holds those within it together; cells that only touch stay apart.
	if got := mustSee(t, l, []impl.Cell{sess(0, 90, 0, 1), sess(5, 7, 0, 2), sess(20, 22, 1, 3), sess(89, 92, 0, 4), sess(92, 95, 0, 5)}, 2, 1); !sameCells(got, []impl.Cell{sess(0, 92, 1, 1, 2, 3, 4), sess(92, 95, 0, 5)}) {
		t.Fatal(got)
	}
}

func TestP11EveryFewCells(t *testing.T) {
	l := diamond(t)
	pool := []impl.Cell{cell(1, 2, 1, 4, 0, 90), cell(1, 4, 1, 4, 0, 91), cell(2, 3, 1, 4, 1, 92)}
	for _, c := range [][3]int{{0, 2, 0}, {0, 2, 1}, {1, 3, 1}, {1, 3, 2}, {2, 4, 0}, {2, 4, 2}, {0, 4, 3}, {4, 6, 1}} {
		pool = append(pool, sess(c[0], c[1], c[2], len(pool)))
	}
	everySubset(sortedCells(pool), func(part []impl.Cell) {
		for _, listed := range [][]int{nil, {1, 2}} {
			checkViews(t, l, part, listed...)
			checkMarks(t, l, part, []int{2, 3, 4, 6}, listed...)
		}
	})
}

func TestCellsSeenInvalid(t *testing.T) {
	l := diamond(t)
	list := []impl.Cell{sess(1, 5, 0, 1), sess(4, 9, 1, 2), sess(20, 24, 3, 3)}
	for _, clearance := range append(numbersAround(0, 3), -4, 1<<32+1) {
		if _, ok := checkSeen(t, l, list, clearance, []int{1}); ok != (clearance >= 0 && clearance <= 3) {
			t.Fatal(clearance, ok)
		}
	}
	for _, bad := range badLats() {
		for clearance := -1; clearance <= 4; clearance++ {
			if _, ok := checkSeen(t, bad, list, clearance, []int{1}); ok {
				t.Fatal(bad)
			}
		}
		for _, mark := range []int{-1, 0, 5, 1100} {
			if _, ok := checkLeft(t, bad, list, mark, []int{1}); ok {
				t.Fatal(bad)
			}
		}
	}
	// A label of no lattice counts even where the clearance would not see it.
	for n := 1; n <= 4; n++ {
		for clearance := -1; clearance <= n; clearance++ {
			if _, ok := checkSeen(t, chain(t, n), list, clearance, []int{1}); ok != (n == 4 && clearance >= 0 && clearance < n) {
				t.Fatal(n, clearance, ok)
			}
		}
		if _, ok := checkLeft(t, chain(t, n), list, 10, []int{1}); ok != (n == 4) {
			t.Fatal(n, ok)
		}
	}
	for _, label := range []int{4, 15} {
		if _, ok := checkSeen(t, l, []impl.Cell{sess(1, 5, 0, 1), sess(1, 5, label, 1)}, 0, nil); ok {
			t.Fatal(label)
		}
	}
	if _, ok := checkSeen(t, chain(t, 16), []impl.Cell{sess(1, 5, 15, 1)}, 0, nil); !ok {
		t.Fatal("label 15")
	}
	// A long list of sessions is still one of four queries.
	long := append(slices.Repeat([]int{7, -3, 1 << 40}, 100000), 1)
	if got := mustSee(t, l, list, 3, long...); len(got) != 2 {
		t.Fatal(got)
	}
}

func TestCellsSeenCounts(t *testing.T) {
	l := diamond(t)
	at := func(from int, to int, label int, n int) impl.Cell {
		return impl.Cell{Query: 1, Key: 3, From: from, To: to, Label: label, Agg: zeros(n)}
	}
	for _, c := range []struct {
		list   []impl.Cell
		listed []int
		want   [4]bool
	}{
		{[]impl.Cell{at(5, 10, 1, 500000), at(5, 10, 2, 500000)}, nil, [4]bool{true, true, true, true}},
		{[]impl.Cell{at(5, 10, 1, 500000), at(5, 10, 2, 500001)}, nil, [4]bool{true, true, true, false}},
		{[]impl.Cell{at(5, 10, 0, 1000000), at(5, 10, 2, 1)}, nil, [4]bool{true, true, false, false}},
		{[]impl.Cell{at(5, 10, 0, 1000000), at(9, 10, 2, 1)}, nil, [4]bool{true, true, true, true}},
		{[]impl.Cell{at(5, 10, 0, 1000000), at(9, 10, 2, 1)}, []int{1}, [4]bool{true, true, false, false}},
		{[]impl.Cell{at(5, 10, 0, 1000000), at(10, 11, 2, 1)}, []int{1}, [4]bool{true, true, true, true}},
		{[]impl.Cell{at(5, 10, 0, 1000000), at(9, 10, 2, 1)}, []int{0, 2, 3}, [4]bool{true, true, true, true}},
		{[]impl.Cell{at(1, 5, 0, 500000), at(4, 11, 1, 1), at(10, 12, 0, 499999)}, []int{1}, [4]bool{true, true, true, true}},
		{[]impl.Cell{at(1, 5, 0, 500000), at(4, 11, 1, 1), at(10, 12, 0, 500000)}, []int{1}, [4]bool{true, false, true, false}},
		{[]impl.Cell{at(1, 5, 0, 1000000), at(4, 5, 0, 1000000)}, []int{1}, [4]bool{}},
	} {
		for clearance := range 4 {
			if _, ok := checkSeen(t, l, c.list, clearance, c.listed); ok != c.want[clearance] {
				t.Fatalf("%d and %v: %v", clearance, c.list, ok)
			}
		}
		for _, mark := range []int{-1, 0, 5, 10, 12, 1100} {
			if _, ok := checkLeft(t, l, c.list, mark, c.listed); ok != c.want[3] {
				t.Fatalf("%d and %v: %v", mark, c.list, ok)
			}
		}
	}
}

func TestCellsDueEnds(t *testing.T) {
	list := []impl.Cell{cell(0, 0, 0, 5, 0, 1), cell(0, 0, 2, 9, 3, 2), cell(1, 3, 1, 2, 0, 3), cell(1, 3, 4, 5, 1, 4), cell(1, 3, 4, 6, 1, 5), cell(3, 15, 7, 1100, 1, 6)}
	ends := []int{math.MinInt, math.MinInt + 1, -1, 0, 1, 2, 3, 4, 5, 6, 7, 8, 9, 10, 1099, 1100, 1101, 1 << 32, math.MaxInt - 1, math.MaxInt}
	for _, from := range ends {
		for _, to := range ends {
			got := checkDue(t, list, from, to)
			if from >= to && len(got) > 0 {
				t.Fatalf("%d..%d: %v", from, to, got)
			}
			// The cells of two consecutive intervals are those of both together.
			for _, next := range ends {
				if to >= from && next >= to && !sameCells(sortedCells(append(slices.Clone(got), checkDue(t, list, to, next)...)), checkDue(t, list, from, next)) {
					t.Fatalf("%d, %d and %d", from, to, next)
				}
			}
		}
	}
	for _, c := range []struct{ from, to, want int }{{4, 5, 2}, {5, 5, 0}, {5, 6, 1}, {4, 4, 0}, {5, 4, 0}, {6, 5, 0}, {1, 2, 1}, {2, 5, 2}, {0, 1100, 6}, {1099, 1100, 1}, {1100, 1100, 0}, {0, 1099, 5}} {
		if got := checkDue(t, list, c.from, c.to); len(got) != c.want {
			t.Fatalf("%v: %v", c, got)
		}
	}
}

func TestCellsOfEveryLabel(t *testing.T) {
	list := fullCells()[:200]
	list = slices.DeleteFunc(list, func(c impl.Cell) bool { return c.Label == 6 || c.Label == 0 && c.Key == 0 })
	for _, label := range numbersAround(0, 15) {
		got := checkOfLabel(t, list, label)
		if label < 0 || label > 15 || label == 6 {
			if len(got) > 0 {
				t.Fatalf("%d: %v", label, got)
			}
		}
		for _, c := range got {
			if c.Label != label {
				t.Fatalf("%d: %v", label, got)
			}
		}
	}
}

func TestCellsLeftWithoutSessions(t *testing.T) {
	l := diamond(t)
	// Windows of one query may lie within each other without being combined.
	list := []impl.Cell{cell(0, 0, 0, 10, 1, 1), cell(0, 0, 0, 10, 2, 2), cell(0, 0, 1, 5, 0, 3), cell(0, 0, 2, 12, 0, 4), cell(0, 1, 0, 10, 3, 5)}
	for mark, want := range map[int][]impl.Cell{4: list, 5: {list[0], list[1], list[3], list[4]}, 9: {list[0], list[1], list[3], list[4]}, 10: {list[3]}, 11: {list[3]}, 12: nil} {
		if got := mustLeave(t, l, list, mark); !sameCells(got, want) {
			t.Fatalf("%d: %v", mark, got)
		}
	}
	for mark, want := range map[int][]impl.Cell{5: list, 9: list, 10: list[:4], 11: list[:4], 12: nil} {
		if got := mustLeave(t, l, list, mark, 0); !sameCells(got, want) {
			t.Fatalf("%d: %v", mark, got)
		}
	}
	checkMarks(t, l, list, []int{math.MinInt, -1, 0, 4, 5, 6, 9, 10, 11, 12, 13, 1100, math.MaxInt})
	checkMarks(t, l, list, []int{math.MinInt, -1, 0, 4, 5, 6, 9, 10, 11, 12, 13, 1100, math.MaxInt}, 0)
}

// A session of the top label ends after the mark, though all that lower ones see of it has ended.
func TestP11LeftForHigherLabels(t *testing.T) {
	l := diamond(t)
	list := []impl.Cell{sess(1, 5, 0, 1), sess(2, 6, 1, 2), sess(5, 9, 2, 3), sess(9, 12, 0, 4)}
	for mark, want := range map[int][]impl.Cell{5: list, 6: list, 8: list, 9: list[3:], 11: list[3:], 12: nil} {
		if got := mustLeave(t, l, list, mark, 1); !sameCells(got, want) {
			t.Fatalf("%d: %v", mark, got)
		}
	}
	linked := slices.Insert(slices.Clone(list), 3, sess(8, 10, 3, 9))
	for mark, want := range map[int]int{5: 5, 9: 5, 10: 5, 11: 5, 12: 0} {
		if got := mustLeave(t, l, linked, mark, 1); len(got) != want {
			t.Fatalf("%d: %v", mark, got)
		}
	}
	same := []impl.Cell{sess(1, 5, 0, 1), sess(1, 5, 1, 2), sess(1, 5, 2, 3), sess(1, 5, 3, 4), sess(5, 7, 0, 5)}
	for mark, want := range map[int]int{4: 5, 5: 1, 6: 1, 7: 0} {
		for _, listed := range [][]int{nil, {1}} {
			if got := mustLeave(t, l, same, mark, listed...); len(got) != want {
				t.Fatalf("%d: %v", mark, got)
			}
		}
	}
	for _, cells := range [][]impl.Cell{list, linked, same} {
		checkMarks(t, l, cells, []int{4, 5, 6, 7, 8, 9, 10, 11, 12, 13}, 1)
		checkMarks(t, l, cells, []int{4, 5, 6, 7, 8, 9, 10, 11, 12, 13})
	}
}

// defsOf are the definitions of the queries 0 to 3.
func defsOf() [4]impl.WinDef {
	return [4]impl.WinDef{tumbling(5), sessions(4), sliding(6, 2), sessions(9)}
}

// drawArrival draws an element of a few keys and of times below spread.
func drawArrival(draw func(n int) int, labels int, spread int) arrival {
	id := draw(4)
	return arrival{id: id, d: defsOf()[id], key: draw(2) * 15, time: draw(spread), label: draw(labels), v: drawNumber(draw)}
}

// checkElems checks that all clearances see what their elements make, from the elements alone.
func checkElems(t *testing.T, l impl.Lat, elems []arrival, list []impl.Cell) {
	t.Helper()
	for clearance := range l.N {
		got, ok := impl.CellsSeen(l, list, clearance, []int{1, 3})
		if want := plainView(l, elems, clearance); !ok || !sameCells(got, want) {
			t.Fatalf("%d sees %v of %v, not %v", clearance, got, elems, want)
		}
	}
}

func TestP11EveryOrderOfFewElements(t *testing.T) {
	draw, l := draws(), diamond(t)
	for round := range 400 {
		elems := []arrival{}
		for range 1 + round%5 {
			a := drawArrival(draw, 4, 14)
			a.key = 0
			if round%2 == 0 {
				a.id, a.d = 1, sessions(4)
			}
			elems = append(elems, a)
		}
		want := added(t, elems)
		checkElems(t, l, elems, want)
		everyOrder(elems, func(elems []arrival) {
			if got := added(t, elems); !sameCells(got, want) {
				t.Fatalf("%v make %v, not %v", elems, got, want)
			}
		})
	}
}

func TestP11ManyElementsInAnyOrder(t *testing.T) {
	draw := draws()
	for round, l := range []impl.Lat{chain(t, 1), chain(t, 2), diamond(t), fan(t, 7), subsets(), chain(t, 16), diamond(t), subsets()} {
		elems := []arrival{}
		for range 40 + 20*(round%3) {
			elems = append(elems, drawArrival(draw, l.N, []int{1001, 120, 40}[round%3]))
		}
		list := mustCells(t, nil, elems...)
		checkElems(t, l, elems, list)
		checkViews(t, l, list, 1, 3)
		checkMarks(t, l, list, []int{-1, 0, 7, 12, 20, 33, 60, 500, 1100}, 1, 3)
		for range 3 {
			mixed := slices.Clone(elems)
			order := make([]int, len(elems))
			for i := range order {
				order[i] = i
			}
			for i, k := range shuffled(draw, order) {
				mixed[i] = elems[k]
			}
			if got := added(t, mixed); !sameCells(got, list) {
				t.Fatalf("%v make %v, not %v", mixed, got, list)
			}
		}
	}
}

// What a clearance may not see changes nothing that it sees, also while marks advance and cells are removed.
func TestP11HiddenElementsChangeNothing(t *testing.T) {
	draw, due := draws(), 0
	for round := range 30 {
		l := []impl.Lat{diamond(t), chain(t, 3), subsets()}[round%3]
		clearance, mark := draw(l.N), 0
		all, some := []impl.Cell{}, []impl.Cell{}
		for range 60 {
			a := drawArrival(draw, l.N, 20)
			// No element is older than the mark.
			a.time += mark
			all = mustCells(t, all, a)
			if plainLe(l, a.label, clearance) {
				some = mustCells(t, some, a)
			}
			next := mark + max(0, draw(12)-6)
			left, right := mustSee(t, l, all, clearance, 1, 3), mustSee(t, l, some, clearance, 1, 3)
			if !sameCells(checkDue(t, left, mark, math.MaxInt), checkDue(t, right, mark, math.MaxInt)) {
				t.Fatalf("at %d, %d sees %v instead of %v", mark, clearance, left, right)
			}
			due += len(impl.CellsDue(left, mark, next))
			mark = next
			all, some = mustLeave(t, l, all, mark, 1, 3), mustLeave(t, l, some, mark, 1, 3)
		}
	}
	if due < 100 {
		t.Fatalf("only %d cells are due", due)
	}
}

// spoilCells overwrites a result, with all that lies behind it and behind each Top. Before, it checks that no other cell shares a Top.
func spoilCells(t *testing.T, list []impl.Cell) {
	t.Helper()
	for i := range list {
		before := copyCells(list)
		spoilNumbers(list[i].Agg.Top)
		for k := range list {
			if k != i && !sameCell(list[k], before[k]) {
				t.Fatalf("%v shares memory with %v", before[k], before[i])
			}
		}
	}
	clear(list[:cap(list)])
}

func TestCellsMemory(t *testing.T) {
	numbers := []int{9, 8, 7, 6, 55, 44}
	whole := []impl.Cell{sess(1, 5, 0, 1, 2), sess(4, 9, 1, 9, 8, 7, 6, 5), sess(4, 9, 2, 3), sess(20, 24, 0, 4), cell(2, 0, 5, 10, 3, 5), cell(2, 0, 5, 11, 3, 6), {}, cell(0, 0, 0, 5, 0, 1)}
	// What lies beyond the length of a list does not count, nor what lies beyond that of Top.
	whole[1].Agg.Top = numbers[:4]
	whole[4].Agg.Top = append(make([]int, 0, 9), 5)
	up, listed := []uint64{15, 10, 12, 8, 99, 98}, []int{1, 7, 2, 0}
	l := impl.Lat{N: 4, Up: up[:4]}
	kept, keptNumbers, keptUp, keptListed := copyCells(whole), slices.Clone(numbers), slices.Clone(up), slices.Clone(listed)
	for range 2 {
		for _, list := range [][]impl.Cell{whole[:6], whole[:1], whole[:2], whole[:0]} {
			for _, a := range []arrival{{1, sessions(4), 3, 7, 1, 5}, {1, sessions(1), 3, 15, 1, 5}, {1, sessions(30), 3, 0, 0, 5}, {2, tumbling(5), 0, 7, 3, 9}, {2, sliding(6, 5), 0, 7, 3, 9}, {3, sliding(8, 1), 0, 7, 3, 9}} {
				spoilCells(t, mustCells(t, list, a))
			}
			for n := range 4 {
				spoilCells(t, mustSee(t, l, list, n, listed[:2]...))
				spoilCells(t, mustSee(t, l, list, n))
				spoilCells(t, mustLeave(t, l, list, 5*n, listed[:2]...))
				spoilCells(t, mustLeave(t, l, list, 5*n))
				spoilCells(t, checkOfLabel(t, list, n))
				spoilCells(t, checkDue(t, list, 0, 8*n))
			}
			if !impl.CellsOk(list) || len(list) > 0 && !impl.CellOk(list[0]) {
				t.Fatal(list)
			}
		}
		if !sameCells(whole, kept) || !slices.Equal(numbers, keptNumbers) || !slices.Equal(up, keptUp) || !slices.Equal(listed, keptListed) {
			t.Fatal("an argument is changed, or a result shares memory with it")
		}
		if whole[4].Agg.Top[:2][1] != 0 {
			t.Fatal("what lies behind a Top is changed")
		}
	}
}
