package tests

import (
	"math"
	"slices"
	"testing"

	"loop.example/g00699/impl"
)

// plainOk is the document's definition of a valid lattice, label by label.
func plainOk(l impl.Lat) bool {
	if l.N < 1 || l.N > 16 || len(l.Up) != l.N {
		return false
	}
	for a := 0; a < l.N; a++ {
		for b := l.N; b < 64; b++ {
			if plainLe(l, a, b) {
				return false
			}
		}
		if !plainLe(l, a, a) {
			return false
		}
		for b := 0; b < l.N; b++ {
			if a != b && plainLe(l, a, b) && plainLe(l, b, a) {
				return false
			}
			for c := 0; c < l.N; c++ {
				if plainLe(l, a, b) && plainLe(l, b, c) && !plainLe(l, a, c) {
					return false
				}
			}
		}
	}
	for a := 0; a < l.N; a++ {
		for b := 0; b < l.N; b++ {
			if plainJoin(l, a, b) < 0 || plainMeet(l, a, b) < 0 {
				return false
			}
		}
	}
	return true
}

func plainLe(l impl.Lat, a int, b int) bool { return l.Up[a]>>b&1 == 1 }

func plainJoin(l impl.Lat, a int, b int) int {
	for j := 0; j < l.N; j++ {
		least := plainLe(l, a, j) && plainLe(l, b, j)
		for u := 0; u < l.N; u++ {
			if plainLe(l, a, u) && plainLe(l, b, u) && !plainLe(l, j, u) {
				least = false
			}
		}
		if least {
			return j
		}
	}
	return -1
}

func plainMeet(l impl.Lat, a int, b int) int {
	for m := 0; m < l.N; m++ {
		greatest := plainLe(l, m, a) && plainLe(l, m, b)
		for u := 0; u < l.N; u++ {
			if plainLe(l, u, a) && plainLe(l, u, b) && !plainLe(l, u, m) {
				greatest = false
			}
		}
		if greatest {
			return m
		}
	}
	return -1
}

func plainEdges(l impl.Lat) []impl.Edge {
	var edges []impl.Edge
	for a := 0; a < l.N; a++ {
		for b := 0; b < l.N; b++ {
			edge := a != b && plainLe(l, a, b)
			for c := 0; c < l.N; c++ {
				if c != a && c != b && plainLe(l, a, c) && plainLe(l, c, b) {
					edge = false
				}
			}
			if edge {
				edges = append(edges, impl.Edge{Lo: a, Hi: b})
			}
		}
	}
	return edges
}

func sameLat(a impl.Lat, b impl.Lat) bool { return a.N == b.N && slices.Equal(a.Up, b.Up) }

func mustLat(t *testing.T, n int, edges ...impl.Edge) impl.Lat {
	t.Helper()
	l, ok := impl.LatOf(n, edges)
	if !ok || l.N != n || len(l.Up) != n {
		t.Fatalf("LatOf(%d, %v) = %v, %v", n, edges, l, ok)
	}
	return l
}

func diamond(t *testing.T) impl.Lat {
	t.Helper()
	return mustLat(t, 4, impl.Edge{Lo: 0, Hi: 1}, impl.Edge{Lo: 0, Hi: 2}, impl.Edge{Lo: 1, Hi: 3}, impl.Edge{Lo: 2, Hi: 3})
}

func chain(t *testing.T, n int) impl.Lat {
	t.Helper()
	var edges []impl.Edge
	for a := 1; a < n; a++ {
		edges = append(edges, impl.Edge{Lo: a - 1, Hi: a})
	}
	return mustLat(t, n, edges...)
}

// subsets is the lattice of the subsets of a set of four, with the labels as bit sets.
func subsets() impl.Lat {
	l := impl.Lat{N: 16}
	for a := 0; a < 16; a++ {
		row := uint64(0)
		for b := 0; b < 16; b++ {
			if a&^b == 0 {
				row |= 1 << b
			}
		}
		l.Up = append(l.Up, row)
	}
	return l
}

// fan has n - 2 labels beside each other, below the top 0 and above the bottom 1.
func fan(t *testing.T, n int) impl.Lat {
	t.Helper()
	var edges []impl.Edge
	for a := 2; a < n; a++ {
		edges = append(edges, impl.Edge{Lo: 1, Hi: a}, impl.Edge{Lo: a, Hi: 0})
	}
	return mustLat(t, n, edges...)
}

// checkLattice compares every function with the definitions, for all labels of a lattice, and checks promise 3.
func checkLattice(t *testing.T, l impl.Lat) {
	t.Helper()
	all := []int{}
	for a := 0; a < l.N; a++ {
		all = append(all, a)
		down := []int{}
		for b := 0; b < l.N; b++ {
			if plainLe(l, b, a) {
				down = append(down, b)
			}
			if impl.LatLe(l, a, b) != plainLe(l, a, b) || impl.LatJoin(l, a, b) != plainJoin(l, a, b) || impl.LatMeet(l, a, b) != plainMeet(l, a, b) {
				t.Fatalf("%v: labels %d and %d", l, a, b)
			}
			if impl.LatJoinAll(l, []int{a, b}) != plainJoin(l, a, b) {
				t.Fatalf("%v: join of the list %d, %d", l, a, b)
			}
		}
		if !slices.Equal(impl.LatDown(l, a), down) || impl.LatJoinAll(l, down) != a || impl.LatJoinAll(l, []int{a}) != a {
			t.Fatalf("%v: labels at or below %d: %v", l, a, impl.LatDown(l, a))
		}
	}
	low, high := impl.LatEnds(l)
	for _, a := range all {
		if !plainLe(l, low, a) || !plainLe(l, a, high) {
			t.Fatalf("%v: ends %d and %d", l, low, high)
		}
	}
	if impl.LatJoinAll(l, nil) != low || impl.LatJoinAll(l, []int{}) != low || impl.LatJoinAll(l, all) != high {
		t.Fatalf("%v: join of none and of all", l)
	}
	edges := impl.LatEdges(l)
	back, ok := impl.LatOf(l.N, edges)
	if !slices.Equal(edges, plainEdges(l)) || !ok || !sameLat(back, l) {
		t.Fatalf("%v: edges %v yield %v, %v", l, edges, back, ok)
	}
}

// checkNoLattice checks what every function answers for a lattice that is not valid.
func checkNoLattice(t *testing.T, l impl.Lat) {
	t.Helper()
	low, high := impl.LatEnds(l)
	if impl.LatOk(l) || low != -1 || high != -1 || impl.LatEdges(l) != nil || impl.LatJoinAll(l, nil) != -1 || impl.LatJoinAll(l, []int{0}) != -1 {
		t.Fatalf("%v is accepted", l)
	}
	if impl.LatLe(l, 0, 0) || impl.LatJoin(l, 0, 0) != -1 || impl.LatMeet(l, 0, 0) != -1 || impl.LatDown(l, 0) != nil {
		t.Fatalf("%v is used", l)
	}
}

// relationOf takes the n * n lowest bits of code as a relation between n labels.
func relationOf(n int, code uint64) impl.Lat {
	l := impl.Lat{N: n}
	for a := 0; a < n; a++ {
		l.Up = append(l.Up, code>>(a*n)&(1<<n-1))
	}
	return l
}

func TestP3AllSmallRelations(t *testing.T) {
	for n, want := range []int{0, 1, 2, 6, 36} {
		if n == 0 {
			continue
		}
		got := 0
		for code := uint64(0); code < 1<<(n*n); code++ {
			l := relationOf(n, code)
			if impl.LatOk(l) != plainOk(l) {
				t.Fatalf("LatOk(%v) = %v", l, impl.LatOk(l))
			}
			if impl.LatOk(l) {
				got++
				checkLattice(t, l)
			} else {
				checkNoLattice(t, l)
			}
		}
		if got != want {
			t.Fatalf("%d lattices of %d labels, not %d", got, n, want)
		}
	}
}

func TestP3LatticesOfFiveLabels(t *testing.T) {
	const pairs = 20
	got := 0
	for code := 0; code < 1<<pairs; code++ {
		l := impl.Lat{N: 5, Up: make([]uint64, 5)}
		bit := 0
		for a := 0; a < 5; a++ {
			l.Up[a] = 1 << a
			for b := 0; b < 5; b++ {
				if a != b {
					l.Up[a] |= uint64(code>>bit&1) << b
					bit++
				}
			}
		}
		if impl.LatOk(l) {
			got++
			checkLattice(t, l)
		}
	}
	if got != 380 {
		t.Fatalf("%d lattices of 5 labels, not 380", got)
	}
}

func TestP3LargeLattices(t *testing.T) {
	for n := 1; n <= impl.MaxLabels; n++ {
		checkLattice(t, chain(t, n))
		if n >= 3 {
			checkLattice(t, fan(t, n))
		}
	}
	if !impl.LatOk(subsets()) {
		t.Fatal("subsets")
	}
	checkLattice(t, subsets())
	if len(impl.LatEdges(subsets())) != 32 || len(impl.LatEdges(fan(t, 16))) != 28 {
		t.Fatal("number of edges")
	}
}

func TestLatticeDocumentExamples(t *testing.T) {
	l := diamond(t)
	if !slices.Equal(l.Up, []uint64{15, 10, 12, 8}) {
		t.Fatal(l)
	}
	if impl.LatJoin(l, 1, 2) != 3 || impl.LatMeet(l, 1, 2) != 0 {
		t.Fatal("bounds of 1 and 2")
	}
	checkLattice(t, l)
}

func TestLatticeOfOneLabel(t *testing.T) {
	for _, edges := range [][]impl.Edge{nil, {}, {{Lo: 0, Hi: 0}}} {
		l := mustLat(t, 1, edges...)
		low, high := impl.LatEnds(l)
		if !slices.Equal(l.Up, []uint64{1}) || low != 0 || high != 0 {
			t.Fatal(l, low, high)
		}
		if len(impl.LatEdges(l)) != 0 || !slices.Equal(impl.LatDown(l, 0), []int{0}) || impl.LatJoinAll(l, nil) != 0 || impl.LatJoinAll(l, []int{0, 0, 0}) != 0 {
			t.Fatal("one label")
		}
		if impl.LatJoin(l, 0, 0) != 0 || impl.LatMeet(l, 0, 0) != 0 || !impl.LatLe(l, 0, 0) || impl.LatLe(l, 0, 1) || impl.LatJoin(l, 0, 1) != -1 || impl.LatJoinAll(l, []int{0, 1}) != -1 {
			t.Fatal("one label and another")
		}
	}
}

func TestLatticeEndsNeedNotBeFirstAndLast(t *testing.T) {
	l := mustLat(t, 4, impl.Edge{Lo: 2, Hi: 0}, impl.Edge{Lo: 2, Hi: 3}, impl.Edge{Lo: 0, Hi: 1}, impl.Edge{Lo: 3, Hi: 1})
	low, high := impl.LatEnds(l)
	if low != 2 || high != 1 || impl.LatJoinAll(l, nil) != 2 || impl.LatJoinAll(l, []int{3, 0}) != 1 {
		t.Fatal(low, high)
	}
	checkLattice(t, l)
}

func TestLatOfClosesInAnyOrder(t *testing.T) {
	want := chain(t, 16)
	var edges []impl.Edge
	for a := 15; a > 0; a-- {
		edges = append(edges, impl.Edge{Lo: a - 1, Hi: a}, impl.Edge{Lo: a - 1, Hi: a}, impl.Edge{Lo: a, Hi: a})
	}
	edges = append(edges, impl.Edge{Lo: 0, Hi: 15})
	if got := mustLat(t, 16, edges...); !sameLat(got, want) {
		t.Fatal(got)
	}
	// Downwards along the numbers, and in an order in which no edge continues the one before it.
	mixed := []impl.Edge{{Lo: 1, Hi: 3}, {Lo: 4, Hi: 2}, {Lo: 3, Hi: 0}, {Lo: 2, Hi: 1}}
	if got := mustLat(t, 5, mixed...); !slices.Equal(got.Up, []uint64{1, 11, 15, 9, 31}) {
		t.Fatal(got)
	}
}

func TestLatOfLimits(t *testing.T) {
	if l := chain(t, 16); l.Up[0] != 65535 || l.Up[15] != 32768 {
		t.Fatal(l)
	}
	edges := []impl.Edge{{Lo: 0, Hi: 1}}
	for len(edges) < 100 {
		edges = append(edges, impl.Edge{Lo: 1, Hi: 1})
	}
	if l := mustLat(t, 2, edges...); !slices.Equal(l.Up, []uint64{3, 2}) {
		t.Fatal(l)
	}
	refuse(t, 2, append(edges, impl.Edge{Lo: 1, Hi: 1}))
	var seventeen []impl.Edge
	for a := 0; a < 16; a++ {
		seventeen = append(seventeen, impl.Edge{Lo: a, Hi: a + 1})
	}
	refuse(t, 17, seventeen)
}

func refuse(t *testing.T, n int, edges []impl.Edge) {
	t.Helper()
	l, ok := impl.LatOf(n, edges)
	if ok || l.N != 0 || len(l.Up) != 0 {
		t.Fatalf("LatOf(%d, %v) = %v, %v", n, edges, l, ok)
	}
}

func TestLatOfInvalid(t *testing.T) {
	for _, n := range []int{0, -1, 17, 64, 65, math.MaxInt, math.MinInt} {
		refuse(t, n, nil)
	}
	for _, a := range []int{-1, 2, 16, 64, math.MaxInt, math.MinInt} {
		refuse(t, 2, []impl.Edge{{Lo: 0, Hi: 1}, {Lo: a, Hi: 1}})
		refuse(t, 2, []impl.Edge{{Lo: 0, Hi: a}, {Lo: 0, Hi: 1}})
		refuse(t, 2, []impl.Edge{{Lo: 0, Hi: 1}, {Lo: a, Hi: a}})
	}
	refuse(t, 2, nil)
	refuse(t, 2, []impl.Edge{{Lo: 0, Hi: 1}, {Lo: 1, Hi: 0}})
	refuse(t, 3, []impl.Edge{{Lo: 0, Hi: 1}, {Lo: 1, Hi: 2}, {Lo: 2, Hi: 0}})
	refuse(t, 3, []impl.Edge{{Lo: 0, Hi: 1}, {Lo: 0, Hi: 2}})
	refuse(t, 3, []impl.Edge{{Lo: 1, Hi: 0}, {Lo: 2, Hi: 0}})
	// Both middle pairs are crossed: 3 and 4 bound 1 and 2 from above, and neither is the least.
	refuse(t, 6, []impl.Edge{{Lo: 0, Hi: 1}, {Lo: 0, Hi: 2}, {Lo: 1, Hi: 3}, {Lo: 1, Hi: 4}, {Lo: 2, Hi: 3}, {Lo: 2, Hi: 4}, {Lo: 3, Hi: 5}, {Lo: 4, Hi: 5}})
}

func TestLatOkInvalid(t *testing.T) {
	list := []impl.Lat{
		{},
		{N: 0, Up: []uint64{1}},
		{N: -1},
		{N: -1, Up: []uint64{1}},
		{N: 1},
		{N: 1, Up: []uint64{1, 2}},
		{N: 2, Up: []uint64{1}},
		{N: math.MaxInt, Up: []uint64{1}},
		{N: math.MinInt, Up: []uint64{1}},
		{N: 1, Up: []uint64{0}},
		{N: 1, Up: []uint64{3}},
		{N: 1, Up: []uint64{1 | 1<<63}},
		{N: 2, Up: []uint64{3, 2 | 1<<2}},
		{N: 2, Up: []uint64{3, 0}},
		{N: 2, Up: []uint64{2, 2}},
		{N: 2, Up: []uint64{3, 3}},
		{N: 2, Up: []uint64{1, 2}},
		{N: 3, Up: []uint64{3, 6, 4}},
		{N: 3, Up: []uint64{7, 2, 4}},
		{N: 3, Up: []uint64{5, 6, 4}},
	}
	for _, l := range list {
		if plainOk(l) {
			t.Fatalf("%v is a lattice", l)
		}
		checkNoLattice(t, l)
	}
	long := subsets()
	long.Up[15] |= 1 << 16
	checkNoLattice(t, long)
	seventeen := impl.Lat{N: 17}
	for a := 0; a < 17; a++ {
		seventeen.Up = append(seventeen.Up, (1<<17-1)>>a<<a)
	}
	checkNoLattice(t, seventeen)
}

func TestLatticeArgumentsThatAreNoLabels(t *testing.T) {
	for _, l := range []impl.Lat{chain(t, 1), diamond(t), subsets()} {
		for _, a := range []int{-1, l.N, l.N + 1, 63, 64, 128, math.MaxInt, math.MinInt} {
			if impl.LatLe(l, a, 0) || impl.LatLe(l, 0, a) || impl.LatLe(l, a, a) || impl.LatDown(l, a) != nil {
				t.Fatalf("%v: %d is compared", l, a)
			}
			if impl.LatJoin(l, a, 0) != -1 || impl.LatJoin(l, 0, a) != -1 || impl.LatJoin(l, a, a) != -1 {
				t.Fatalf("%v: %d is joined", l, a)
			}
			if impl.LatMeet(l, a, 0) != -1 || impl.LatMeet(l, 0, a) != -1 || impl.LatMeet(l, a, a) != -1 {
				t.Fatalf("%v: %d is met", l, a)
			}
			// After the top nothing can change the join but a label that is none.
			if impl.LatJoinAll(l, []int{a}) != -1 || impl.LatJoinAll(l, []int{l.N - 1, a}) != -1 || impl.LatJoinAll(l, []int{a, 0}) != -1 {
				t.Fatalf("%v: %d is joined in a list", l, a)
			}
		}
	}
}

func TestLatJoinAllLongList(t *testing.T) {
	l := subsets()
	list := make([]int, 100000)
	for i := range list {
		list[i] = i % 2 * 4
	}
	if impl.LatJoinAll(l, list) != 4 || impl.LatJoinAll(l, append(list, 9)) != 13 || impl.LatJoinAll(l, append(list, 16)) != -1 {
		t.Fatal("long list")
	}
}

func TestLatticeMemory(t *testing.T) {
	rows := []uint64{3, 2, 99, 98}
	l := impl.Lat{N: 2, Up: rows[:2]}
	labels := []int{0, 1, 7}
	edges := []impl.Edge{{Lo: 0, Hi: 1}, {Lo: 9, Hi: 9}}
	checkLattice(t, l)
	if impl.LatJoinAll(l, labels[:2]) != 1 || !sameLat(mustLat(t, 2, edges[:1]...), l) {
		t.Fatal("spare capacity is read")
	}
	if !slices.Equal(rows, []uint64{3, 2, 99, 98}) || !slices.Equal(labels, []int{0, 1, 7}) || !slices.Equal(edges, []impl.Edge{{Lo: 0, Hi: 1}, {Lo: 9, Hi: 9}}) {
		t.Fatal("an argument is changed")
	}
	impl.LatDown(l, 1)[0] = 5
	impl.LatEdges(l)[0].Hi = 5
	mustLat(t, 2, edges[:1]...).Up[0] = 5
	checkLattice(t, l)
	if !sameLat(mustLat(t, 2, edges[:1]...), l) {
		t.Fatal("results share memory")
	}
}
