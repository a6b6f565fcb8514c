package tests

import (
	"math"
	"slices"
	"testing"

	"loop.example/g00699/impl"
)

// plainBusy returns the promises of the sources that are not idle, in ascending order.
func plainBusy(m impl.Marks) []int {
	list := []int{}
	for _, source := range m.List {
		if !source.Idle {
			list = append(list, source.At)
		}
	}
	slices.Sort(list)
	return list
}

func plainLeast(m impl.Marks) int {
	if busy := plainBusy(m); len(busy) > 0 {
		return busy[0]
	}
	return -1
}

func plainMarksOk(m impl.Marks) bool {
	if len(m.List) == 0 || len(m.List) > 4 || m.Global < 0 || m.Global > 1000 || m.Global < plainLeast(m) {
		return false
	}
	reached := false
	for _, source := range m.List {
		if source.At < 0 || source.At > 1000 {
			return false
		}
		reached = reached || m.Global <= source.At
	}
	return reached
}

// plainPut returns the marks with one source replaced and Global raised, if need be.
func plainPut(m impl.Marks, src int, source impl.Mark) impl.Marks {
	next := impl.Marks{Global: m.Global, List: slices.Clone(m.List)}
	next.List[src] = source
	if least := plainLeast(next); least > next.Global {
		next.Global = least
	}
	return next
}

func plainMarkSet(m impl.Marks, src int, at int) (impl.Marks, int) {
	if !plainMarksOk(m) || src < 0 || src >= len(m.List) || at < 0 || at > 1000 {
		return impl.Marks{}, 1
	}
	if at < m.List[src].At {
		return impl.Marks{}, 2
	}
	return plainPut(m, src, impl.Mark{At: at}), 0
}

func plainMarkIdle(m impl.Marks, src int, idle bool) (impl.Marks, int) {
	if !plainMarksOk(m) || src < 0 || src >= len(m.List) {
		return impl.Marks{}, 1
	}
	return plainPut(m, src, impl.Mark{At: m.List[src].At, Idle: idle}), 0
}

func sameMarks(a impl.Marks, b impl.Marks) bool {
	return a.Global == b.Global && slices.Equal(a.List, b.List)
}

// checkChange compares what a change made of m with what the plain one makes of it; promise 7 holds for both.
func checkChange(t *testing.T, m impl.Marks, change func() (impl.Marks, int), plain func() (impl.Marks, int)) (impl.Marks, int) {
	t.Helper()
	want, wantCode := plain()
	kept := slices.Clone(m.List)
	next, code := change()
	if code != wantCode || !sameMarks(next, want) {
		t.Fatalf("%v became %v with code %d, not %v with %d", m, next, code, want, wantCode)
	}
	if !slices.Equal(m.List, kept) {
		t.Fatalf("the argument %v is changed to %v", kept, m.List)
	}
	if code == impl.MarkFine && (!impl.MarksOk(next) || next.Global < m.Global || next.Global < plainLeast(next)) {
		t.Fatalf("%v became %v", m, next)
	}
	return next, code
}

func checkSet(t *testing.T, m impl.Marks, src int, at int) (impl.Marks, int) {
	t.Helper()
	return checkChange(t, m,
		func() (impl.Marks, int) { return impl.MarkSet(m, src, at) },
		func() (impl.Marks, int) { return plainMarkSet(m, src, at) })
}

func checkIdle(t *testing.T, m impl.Marks, src int, idle bool) (impl.Marks, int) {
	t.Helper()
	return checkChange(t, m,
		func() (impl.Marks, int) { return impl.MarkIdle(m, src, idle) },
		func() (impl.Marks, int) { return plainMarkIdle(m, src, idle) })
}

func mustMark(t *testing.T, m impl.Marks, src int, at int) impl.Marks {
	t.Helper()
	next, code := checkSet(t, m, src, at)
	if code != impl.MarkFine {
		t.Fatalf("MarkSet(%v, %d, %d) has the code %d", m, src, at, code)
	}
	return next
}

func mustIdle(t *testing.T, m impl.Marks, src int, idle bool) impl.Marks {
	t.Helper()
	next, code := checkIdle(t, m, src, idle)
	if code != impl.MarkFine {
		t.Fatalf("MarkIdle(%v, %d, %v) has the code %d", m, src, idle, code)
	}
	return next
}

func mustRest(t *testing.T, m impl.Marks, src int) impl.Marks {
	t.Helper()
	return mustIdle(t, m, src, true)
}

func mustReturn(t *testing.T, m impl.Marks, src int) impl.Marks {
	t.Helper()
	return mustIdle(t, m, src, false)
}

// checkReads compares the functions that change nothing, around the times of m.
func checkReads(t *testing.T, m impl.Marks) {
	t.Helper()
	kept := slices.Clone(m.List)
	if got, want := impl.MarksOk(m), plainMarksOk(m); got != want {
		t.Fatalf("MarksOk(%v) = %v", m, got)
	}
	if got, want := impl.MarksLeast(m), plainLeast(m); got != want {
		t.Fatalf("MarksLeast(%v) = %d, not %d", m, got, want)
	}
	for _, time := range []int{m.Global - 1, m.Global, m.Global + 1, 0, -1, 1000, 1001, math.MaxInt, math.MinInt} {
		if got, want := impl.MarksLate(m, time), plainMarksOk(m) && time < m.Global; got != want {
			t.Fatalf("MarksLate(%v, %d) = %v", m, time, got)
		}
	}
	if !slices.Equal(m.List, kept) {
		t.Fatalf("%v is changed to %v", kept, m.List)
	}
}

// refuseMarks checks what every function answers for marks that are not valid.
func refuseMarks(t *testing.T, m impl.Marks) {
	t.Helper()
	if plainMarksOk(m) {
		t.Fatalf("%v is valid", m)
	}
	checkReads(t, m)
	for src := -1; src <= len(m.List) && src < 6; src++ {
		// A time that would be a step back, one that would not, and ones that are none.
		for _, at := range []int{0, 1, 1000, -1, 1001} {
			if _, code := checkSet(t, m, src, at); code != impl.MarkForm {
				t.Fatalf("MarkSet(%v, %d, %d) has the code %d", m, src, at, code)
			}
		}
		for _, idle := range []bool{false, true} {
			if _, code := checkIdle(t, m, src, idle); code != impl.MarkForm {
				t.Fatalf("MarkIdle(%v, %d, %v) has the code %d", m, src, idle, code)
			}
		}
	}
}

// everyMarks calls use with all marks of n sources at these times, idle or not, and with each Global.
func everyMarks(n int, times []int, globals []int, use func(m impl.Marks)) {
	list := make([]impl.Mark, n)
	var fill func(i int)
	fill = func(i int) {
		if i == n {
			for _, global := range globals {
				use(impl.Marks{Global: global, List: list})
			}
			return
		}
		for _, at := range times {
			for _, idle := range []bool{false, true} {
				list[i] = impl.Mark{At: at, Idle: idle}
				fill(i + 1)
			}
		}
	}
	fill(0)
}

func TestMarksLimits(t *testing.T) {
	if impl.MaxTime != 1000 || impl.MarkFine != 0 || impl.MarkForm != 1 || impl.MarkBack != 2 {
		t.Fatal("limits")
	}
}

func TestMarksNew(t *testing.T) {
	for _, n := range numbersAround(1, 4) {
		m := impl.MarksNew(n)
		if n < 1 || n > 4 {
			if m.Global != 0 || len(m.List) != 0 || impl.MarksOk(m) {
				t.Fatalf("MarksNew(%d) = %v", n, m)
			}
			continue
		}
		if !sameMarks(m, impl.Marks{List: make([]impl.Mark, n)}) || !impl.MarksOk(m) || impl.MarksLeast(m) != 0 || impl.MarksLate(m, 0) || !slices.Equal(plainBusy(m), make([]int, n)) {
			t.Fatalf("MarksNew(%d) = %v", n, m)
		}
	}
	first, second := impl.MarksNew(4), impl.MarksNew(4)
	first.List[:cap(first.List)][0].At = 7
	if !sameMarks(second, impl.MarksNew(4)) {
		t.Fatal("new marks share memory")
	}
}

func TestMarksDocumentExample(t *testing.T) {
	m := mustMark(t, mustMark(t, impl.MarksNew(2), 0, 5), 1, 3)
	if m.Global != 3 {
		t.Fatal(m)
	}
	m = mustRest(t, m, 1)
	if m.Global != 5 {
		t.Fatal(m)
	}
	m = mustReturn(t, m, 1)
	if !sameMarks(m, impl.Marks{Global: 5, List: []impl.Mark{{At: 5}, {At: 3}}}) || impl.MarksLeast(m) != 3 {
		t.Fatal(m)
	}
}

func TestMarksOkAndLeastAroundTheLimits(t *testing.T) {
	times := []int{math.MinInt, -1, 0, 1, 2, 999, 1000, 1001, math.MaxInt}
	checkReads(t, impl.Marks{})
	checkReads(t, impl.Marks{Global: 5})
	for n := 1; n <= 2; n++ {
		everyMarks(n, times, append(times, 3, 998), func(m impl.Marks) { checkReads(t, m) })
	}
	for n := 3; n <= 5; n++ {
		everyMarks(n, []int{0, 5, 1000}, []int{-1, 0, 4, 5, 6, 999, 1000, 1001}, func(m impl.Marks) { checkReads(t, m) })
	}
	for n := 1; n <= 4; n++ {
		for bad := range n {
			for _, at := range []int{-1, 1001, math.MinInt, math.MaxInt} {
				m := impl.Marks{Global: 5, List: slices.Repeat([]impl.Mark{{At: 5}}, n)}
				m.List[bad] = impl.Mark{At: at, Idle: bad%2 == 1}
				refuseMarks(t, m)
			}
		}
	}
}

func TestMarksNumberOfSources(t *testing.T) {
	for n := 0; n <= 6; n++ {
		m := impl.Marks{List: make([]impl.Mark, n)}
		if got := impl.MarksOk(m); got != (n >= 1 && n <= 4) {
			t.Fatalf("%d marks: %v", n, got)
		}
		if n < 1 || n > 4 {
			refuseMarks(t, m)
		}
	}
	// The smallest At is that of any list, not only of a valid one.
	long := impl.Marks{List: slices.Repeat([]impl.Mark{{At: 3}, {At: 1, Idle: true}}, 50000)}
	refuseMarks(t, long)
	if impl.MarksLeast(long) != 3 || impl.MarksLeast(impl.Marks{List: []impl.Mark{{At: -7}, {At: -1}, {At: 4}}}) != -7 {
		t.Fatal("MarksLeast")
	}
}

func TestMarksGlobalBetweenLeastAndGreatest(t *testing.T) {
	list := []impl.Mark{{At: 20}, {At: 10}, {At: 5, Idle: true}, {At: 15}}
	for global := -2; global <= 1002; global++ {
		m := impl.Marks{Global: global, List: list}
		if got := impl.MarksOk(m); got != (global >= 10 && global <= 20) {
			t.Fatalf("Global %d: %v", global, got)
		}
	}
	// The greatest At counts even of an idle source, and with all sources idle nothing but 0 bounds Global from below.
	idle := []impl.Mark{{At: 4, Idle: true}, {At: 9, Idle: true}}
	for global := -2; global <= 12; global++ {
		if got := impl.MarksOk(impl.Marks{Global: global, List: idle}); got != (global >= 0 && global <= 9) {
			t.Fatalf("Global %d: %v", global, got)
		}
		if got := impl.MarksOk(impl.Marks{Global: global, List: []impl.Mark{{At: 4}, {At: 9, Idle: true}}}); got != (global >= 4 && global <= 9) {
			t.Fatalf("Global %d: %v", global, got)
		}
	}
	refuseMarks(t, impl.Marks{Global: 9, List: list})
	refuseMarks(t, impl.Marks{Global: 21, List: list})
	refuseMarks(t, impl.Marks{Global: -1, List: idle})
	refuseMarks(t, impl.Marks{Global: 10, List: idle})
	refuseMarks(t, impl.Marks{Global: math.MaxInt, List: idle})
	refuseMarks(t, impl.Marks{Global: math.MinInt, List: idle})
}

func TestP7EveryChangeOfFewTimes(t *testing.T) {
	times := []int{0, 1, 2, 1000}
	for n := 1; n <= 3; n++ {
		everyMarks(n, times, []int{-1, 0, 1, 2, 3, 999, 1000, 1001}, func(m impl.Marks) {
			for src := -1; src <= n; src++ {
				for _, at := range []int{-1, 0, 1, 2, 3, 999, 1000, 1001} {
					checkSet(t, m, src, at)
				}
				checkIdle(t, m, src, true)
				checkIdle(t, m, src, false)
			}
		})
	}
}

// TestP7FourSources follows a long fixed sequence of changes of MaxSources sources.
func TestP7FourSources(t *testing.T) {
	draw, back, behind, allIdle := draws(), 0, 0, 0
	for range 200 {
		m := impl.MarksNew(4)
		for range 60 {
			src := draw(4)
			next, code := m, impl.MarkFine
			switch draw(6) {
			case 0, 1, 2:
				next, code = checkIdle(t, m, src, true)
			case 3:
				next, code = checkIdle(t, m, src, false)
			default:
				next, code = checkSet(t, m, src, min(m.List[src].At-3+draw(40), 1000))
			}
			if code == impl.MarkBack {
				back++
			}
			if code != impl.MarkFine {
				continue
			}
			m = next
			checkReads(t, m)
			if least := impl.MarksLeast(m); least == -1 {
				allIdle++
			} else if least < m.Global {
				behind++
			}
		}
	}
	if back < 100 || behind < 100 || allIdle < 100 {
		t.Fatalf("too few cases: %d, %d, %d", back, behind, allIdle)
	}
}

// As long as no source returns, Global is the minimum of all promises.
func TestP7GlobalIsTheMinimumIfNoneReturns(t *testing.T) {
	draw := draws()
	for range 200 {
		m := impl.MarksNew(1 + draw(4))
		for range 40 {
			src := draw(len(m.List))
			if m.List[src].Idle {
				continue
			}
			if before := m; draw(12) > 0 {
				m = mustMark(t, m, src, min(m.List[src].At+draw(50), 1000))
			} else if m = mustRest(t, m, src); plainLeast(m) == -1 {
				if m.Global != before.Global {
					t.Fatalf("%v became %v", before, m)
				}
				break
			}
			if m.Global != plainLeast(m) {
				t.Fatalf("Global of %v", m)
			}
		}
	}
}

func TestP7ReturnFromIdling(t *testing.T) {
	rested := mustRest(t, mustMark(t, mustMark(t, impl.MarksNew(2), 0, 50), 1, 10), 1)
	if rested.Global != 50 || impl.MarksLeast(rested) != 50 {
		t.Fatal(rested)
	}
	// By either function, and however far it is behind.
	for _, at := range []int{10, 11, 49, 50, 51, 1000} {
		m := mustMark(t, rested, 1, at)
		if m.List[1].Idle || m.Global != 50 || impl.MarksLeast(m) != min(at, 50) {
			t.Fatal(m)
		}
	}
	m := mustReturn(t, rested, 1)
	if m.List[1].Idle || m.List[1].At != 10 || m.Global != 50 || impl.MarksLeast(m) != 10 {
		t.Fatal(m)
	}
	// Others do not move Global until the one that returned has caught up.
	m = mustMark(t, m, 0, 80)
	if m.Global != 50 {
		t.Fatal(m)
	}
	for _, at := range []int{10, 49, 50} {
		if m = mustMark(t, m, 1, at); m.Global != 50 {
			t.Fatal(m)
		}
	}
	for at, want := range map[int]int{51: 51, 79: 79, 80: 80, 81: 80} {
		if got := mustMark(t, m, 1, at).Global; got != want {
			t.Fatalf("the mark %d makes Global %d", at, got)
		}
	}
	// A source that idles still keeps its promise.
	if _, code := impl.MarkSet(rested, 1, 9); code != impl.MarkBack {
		t.Fatal(code)
	}
}

func TestP7AllIdle(t *testing.T) {
	m := mustMark(t, mustMark(t, mustMark(t, impl.MarksNew(3), 0, 30), 1, 20), 2, 10)
	// Global follows the source that is left, and stays where it is when the last one rests.
	for i, want := range []int{20, 30, 30} {
		if m = mustRest(t, m, 2-i); m.Global != want {
			t.Fatal(m)
		}
	}
	if m.Global != 30 || impl.MarksLeast(m) != -1 || !impl.MarksOk(m) || !impl.MarksLate(m, 29) || impl.MarksLate(m, 30) {
		t.Fatal(m)
	}
	if again := mustRest(t, m, 1); !sameMarks(again, m) {
		t.Fatal(again)
	}
	for src := range 3 {
		if back := mustReturn(t, m, src); back.Global != 30 || impl.MarksLeast(back) != 30-10*src {
			t.Fatal(back)
		}
	}
	if ahead := mustMark(t, m, 2, 40); ahead.Global != 40 {
		t.Fatal(ahead)
	}
	if one := mustRest(t, impl.MarksNew(1), 0); one.Global != 0 || impl.MarksLeast(one) != -1 || mustMark(t, one, 0, 1000).Global != 1000 {
		t.Fatal(one)
	}
}

// A change may raise Global although the source was at that time before.
func TestP7RaisedFromBelow(t *testing.T) {
	low := impl.Marks{Global: 0, List: []impl.Mark{{At: 7, Idle: true}, {At: 9, Idle: true}}}
	if m := mustReturn(t, low, 0); m.Global != 7 {
		t.Fatal(m)
	}
	if m := mustMark(t, low, 1, 9); m.Global != 9 {
		t.Fatal(m)
	}
	if m := mustRest(t, low, 1); m.Global != 0 {
		t.Fatal(m)
	}
}

func TestMarkSetAroundTheLimits(t *testing.T) {
	m := mustMark(t, mustMark(t, impl.MarksNew(2), 0, 500), 1, 400)
	for _, src := range numbersAround(0, 1) {
		for _, at := range []int{math.MinInt, -1, 0, 399, 400, 401, 499, 500, 501, 1000, 1001, math.MaxInt} {
			_, code := checkSet(t, m, src, at)
			want := impl.MarkFine
			if src != 0 && src != 1 || at < 0 || at > 1000 {
				want = impl.MarkForm
			} else if at < 500-100*src {
				want = impl.MarkBack
			}
			if code != want {
				t.Fatalf("source %d and time %d: code %d", src, at, code)
			}
		}
	}
	if same := mustMark(t, m, 1, 400); !sameMarks(same, m) {
		t.Fatal(same)
	}
}

func TestMarkIdleInvalidSources(t *testing.T) {
	for n := 1; n <= 4; n++ {
		m := mustMark(t, impl.MarksNew(n), 0, 8)
		for _, src := range numbersAround(0, 3) {
			for _, idle := range []bool{false, true} {
				if _, code := checkIdle(t, m, src, idle); (code == impl.MarkFine) != (src >= 0 && src < n) {
					t.Fatalf("%d sources: source %d has the code %d", n, src, code)
				}
			}
		}
	}
}

func TestMarksMemory(t *testing.T) {
	whole := []impl.Mark{{At: 5}, {At: 9, Idle: true}, {At: 7}, {At: 2000}, {At: -1, Idle: true}}
	kept := slices.Clone(whole)
	// What lies beyond the length of the list does not count.
	m := impl.Marks{Global: 6, List: whole[:3]}
	m.List[0].At, kept[0].At = 6, 6
	checkReads(t, m)
	results := []impl.Marks{mustMark(t, m, 0, 6), mustMark(t, m, 1, 10), mustRest(t, m, 2), mustReturn(t, m, 1), mustRest(t, m, 1)}
	if !slices.Equal(whole, kept) || m.Global != 6 {
		t.Fatal("an argument is changed")
	}
	for _, result := range results {
		all := result.List[:cap(result.List)]
		for i := range all {
			all[i] = impl.Mark{At: 99}
		}
	}
	if !slices.Equal(whole, kept) {
		t.Fatal("a result shares memory with an argument")
	}
	if again := mustMark(t, m, 0, 6); !sameMarks(again, impl.Marks{Global: 6, List: kept[:3]}) {
		t.Fatal("results share memory")
	}
}
