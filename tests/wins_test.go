package tests

import (
	"cmp"
	"math"
	"slices"
	"testing"

	"loop.example/g00699/impl"
)

func tumbling(size int) impl.WinDef { return impl.WinDef{Kind: impl.WinTumble, Size: size} }

func sliding(size int, step int) impl.WinDef {
	return impl.WinDef{Kind: impl.WinSlide, Size: size, Step: step}
}

func sessions(size int) impl.WinDef { return impl.WinDef{Kind: impl.WinSession, Size: size} }

func win(from int, to int) impl.Win { return impl.Win{From: from, To: to} }

func plainDefOk(d impl.WinDef) bool {
	if d.Size < 1 || d.Size > 100 {
		return false
	}
	if d.Kind == 2 {
		return d.Step >= (d.Size+7)/8 && d.Step <= d.Size
	}
	return (d.Kind == 1 || d.Kind == 3) && d.Step == 0
}

// everyDef calls use with all valid definitions.
func everyDef(use func(d impl.WinDef)) {
	for size := 1; size <= 100; size++ {
		use(tumbling(size))
		use(sessions(size))
		for step := 1; step <= size; step++ {
			if plainDefOk(sliding(size, step)) {
				use(sliding(size, step))
			}
		}
	}
}

func plainWinOk(w impl.Win) bool { return w.From >= 0 && w.To > w.From && w.To <= 1100 }

func plainContains(w impl.Win, time int) bool { return w.From <= time && time < w.To }

// plainWinsOfKind returns all tumbling or sliding windows that start at a time, in order.
func plainWinsOfKind(d impl.WinDef) []impl.Win {
	list := []impl.Win{}
	for from := 0; from <= 1000; from++ {
		if d.Kind == 1 && from%d.Size == 0 || d.Kind == 2 && from%d.Step == 0 {
			list = append(list, win(from, from+d.Size))
		}
	}
	return list
}

func plainSessOk(list []impl.Win) bool {
	for i, w := range list {
		if !plainWinOk(w) || i > 0 && list[i-1].To > w.From {
			return false
		}
	}
	return len(list) <= 300
}

// plainMerged unites windows in any order, however many, as long as any two of them overlap, and sorts the rest.
func plainMerged(list []impl.Win) []impl.Win {
	list = slices.Clone(list)
	for again := true; again; {
		again = false
		for i := range list {
			for k := i + 1; k < len(list) && !again; k++ {
				if list[i].From < list[k].To && list[k].From < list[i].To {
					list[i] = win(min(list[i].From, list[k].From), max(list[i].To, list[k].To))
					list = slices.Delete(list, k, k+1)
					again = true
				}
			}
			if again {
				break
			}
		}
	}
	slices.SortFunc(list, func(v impl.Win, w impl.Win) int { return cmp.Compare(v.From, w.From) })
	return list
}

func plainSessAdd(list []impl.Win, w impl.Win) ([]impl.Win, bool) {
	if !plainSessOk(list) || !plainWinOk(w) {
		return nil, false
	}
	result := plainMerged(append(slices.Clone(list), w))
	if len(result) > 300 {
		return nil, false
	}
	return result, true
}

func plainSessJoin(a []impl.Win, b []impl.Win) ([]impl.Win, bool) {
	if !plainSessOk(a) || !plainSessOk(b) {
		return nil, false
	}
	for _, w := range b {
		next, ok := plainSessAdd(a, w)
		if !ok {
			return nil, false
		}
		a = next
	}
	return a, true
}

func plainSessOf(d impl.WinDef, times []int) ([]impl.Win, bool) {
	if !plainDefOk(d) || d.Kind != 3 || len(times) > 300 {
		return nil, false
	}
	list := []impl.Win{}
	for _, time := range times {
		if time < 0 || time > 1000 {
			return nil, false
		}
		list = append(list, win(time, time+d.Size))
	}
	return plainMerged(list), true
}

// checkInOne checks that a window lies in exactly one session.
func checkInOne(t *testing.T, list []impl.Win, w impl.Win) {
	t.Helper()
	n := 0
	for _, s := range list {
		if s.From <= w.From && w.To <= s.To {
			n++
		}
	}
	if n != 1 {
		t.Fatalf("%v lies in %d sessions of %v", w, n, list)
	}
}

// checkSessions checks that sessions are those wanted and contain all these windows; promise 8 holds for both.
func checkSessions(t *testing.T, got []impl.Win, ok bool, want []impl.Win, wantOk bool, added ...[]impl.Win) {
	t.Helper()
	if ok != wantOk || !slices.Equal(got, want) {
		t.Fatalf("%v and %v instead of %v and %v", got, ok, want, wantOk)
	}
	if !ok {
		return
	}
	if !impl.SessOk(got) {
		t.Fatalf("%v is not valid", got)
	}
	for _, list := range added {
		for _, w := range list {
			checkInOne(t, got, w)
		}
	}
}

func checkAdd(t *testing.T, list []impl.Win, w impl.Win) ([]impl.Win, bool) {
	t.Helper()
	kept := slices.Clone(list)
	want, wantOk := plainSessAdd(list, w)
	got, ok := impl.SessAdd(list, w)
	checkSessions(t, got, ok, want, wantOk, list, []impl.Win{w})
	if !slices.Equal(list, kept) {
		t.Fatalf("the argument %v is changed to %v", kept, list)
	}
	return got, ok
}

func checkJoin(t *testing.T, a []impl.Win, b []impl.Win) ([]impl.Win, bool) {
	t.Helper()
	keptA, keptB := slices.Clone(a), slices.Clone(b)
	want, wantOk := plainSessJoin(a, b)
	got, ok := impl.SessJoin(a, b)
	checkSessions(t, got, ok, want, wantOk, a, b)
	if !slices.Equal(a, keptA) || !slices.Equal(b, keptB) {
		t.Fatalf("the arguments %v and %v are changed to %v and %v", keptA, keptB, a, b)
	}
	return got, ok
}

func checkOf(t *testing.T, d impl.WinDef, times []int) ([]impl.Win, bool) {
	t.Helper()
	kept := slices.Clone(times)
	want, wantOk := plainSessOf(d, times)
	got, ok := impl.SessOf(d, times)
	checkSessions(t, got, ok, want, wantOk)
	if !slices.Equal(times, kept) {
		t.Fatalf("the argument %v is changed to %v", kept, times)
	}
	for _, time := range times {
		if ok {
			checkInOne(t, got, win(time, time+d.Size))
		}
	}
	return got, ok
}

// checkAt compares SessAt, around all ends and far from them, with a look at every session.
func checkAt(t *testing.T, list []impl.Win) {
	t.Helper()
	times := []int{-1, 0, 1, 1000, 1001, 1099, 1100, 1101, math.MinInt, math.MaxInt}
	for _, s := range list {
		times = append(times, s.From-1, s.From, s.From+1, s.To-1, s.To, s.To+1)
	}
	for _, time := range times {
		want := -1
		for i, s := range list {
			if plainSessOk(list) && plainContains(s, time) {
				want = i
			}
		}
		if got := impl.SessAt(list, time); got != want {
			t.Fatalf("SessAt(%v, %d) = %d, not %d", list, time, got, want)
		}
	}
}

// refuseSessions checks what every function answers for a list of sessions that is not valid.
func refuseSessions(t *testing.T, list []impl.Win) {
	t.Helper()
	if plainSessOk(list) || impl.SessOk(list) {
		t.Fatalf("%v is valid", list)
	}
	checkAt(t, list)
	for _, w := range []impl.Win{{From: 0, To: 1}, {From: 0, To: 1100}, {From: 4, To: 8}, {From: 4, To: 4}} {
		if _, ok := checkAdd(t, list, w); ok {
			t.Fatalf("%v is added to %v", w, list)
		}
	}
	for _, other := range [][]impl.Win{nil, {{From: 0, To: 1}}, {{From: 0, To: 1100}}, list} {
		_, left := checkJoin(t, list, other)
		_, right := checkJoin(t, other, list)
		if left || right {
			t.Fatalf("%v is joined to %v", list, other)
		}
	}
}

func mustAdd(t *testing.T, list []impl.Win, w impl.Win) []impl.Win {
	t.Helper()
	got, ok := checkAdd(t, list, w)
	if !ok {
		t.Fatalf("%v is not added to %v", w, list)
	}
	return got
}

func mustJoin(t *testing.T, a []impl.Win, b []impl.Win) []impl.Win {
	t.Helper()
	got, ok := checkJoin(t, a, b)
	if !ok {
		t.Fatalf("%v is not joined to %v", b, a)
	}
	return got
}

func mustSess(t *testing.T, size int, times ...int) []impl.Win {
	t.Helper()
	got, ok := checkOf(t, sessions(size), times)
	if !ok {
		t.Fatalf("no sessions of the size %d and the times %v", size, times)
	}
	return got
}

// everySessions returns all valid lists of sessions whose windows lie within from..to.
func everySessions(from int, to int) [][]impl.Win {
	all := [][]impl.Win{{}}
	for start := from; start < to; start++ {
		for end := start + 1; end <= to; end++ {
			for _, rest := range everySessions(end, to) {
				all = append(all, append([]impl.Win{win(start, end)}, rest...))
			}
		}
	}
	return all
}

// fullSessions returns MaxSess sessions 0..2, 3..5 and so on, with one time between any two of them.
func fullSessions() []impl.Win {
	list := []impl.Win{}
	for i := range 300 {
		list = append(list, win(3*i, 3*i+2))
	}
	return list
}

// shuffled returns the times in another order.
func shuffled(draw func(n int) int, times []int) []int {
	list := slices.Clone(times)
	for i := range list {
		k := i + draw(len(list)-i)
		list[i], list[k] = list[k], list[i]
	}
	return list
}

func TestWinsLimits(t *testing.T) {
	if impl.MaxSize != 100 || impl.MaxSess != 300 || impl.WinTumble != 1 || impl.WinSlide != 2 || impl.WinSession != 3 {
		t.Fatal("limits")
	}
}

func TestWinsDocumentExamples(t *testing.T) {
	if got := impl.WinsOf(tumbling(5), 7); !slices.Equal(got, []impl.Win{{From: 5, To: 10}}) {
		t.Fatal(got)
	}
	if got := impl.WinsOf(sliding(6, 3), 7); !slices.Equal(got, []impl.Win{{From: 3, To: 9}, {From: 6, To: 12}}) {
		t.Fatal(got)
	}
	if got := mustSess(t, 4, 10, 1, 3); !slices.Equal(got, []impl.Win{{From: 1, To: 7}, {From: 10, To: 14}}) {
		t.Fatal(got)
	}
}

func TestWinOkAroundTheLimits(t *testing.T) {
	for _, kind := range append(numbersAround(1, 3), -1, -2, -3) {
		for _, size := range append(numbersAround(1, 100), -1, -5, -100) {
			for _, step := range append(numbersAround(0, 100), -5, -100, math.MaxInt/8, math.MaxInt/8+1, math.MaxInt/4+1, math.MinInt/8) {
				d := impl.WinDef{Kind: kind, Size: size, Step: step}
				want := plainDefOk(d)
				if got := impl.WinOk(d); got != want {
					t.Fatalf("WinOk(%v) = %v", d, got)
				}
				if got := impl.WinsOf(d, 7); (len(got) > 0) != want {
					t.Fatalf("WinsOf(%v, 7) = %v", d, got)
				}
				if _, ok := impl.SessOf(d, []int{7}); ok != (want && kind == 3) {
					t.Fatalf("SessOf(%v, [7]) returns %v", d, ok)
				}
			}
		}
	}
}

func TestWinOkSteps(t *testing.T) {
	for _, c := range []struct {
		size int
		step int
		ok   bool
	}{{1, 0, false}, {1, 1, true}, {1, 2, false}, {8, 1, true}, {9, 1, false}, {9, 2, true}, {16, 2, true}, {17, 2, false}, {96, 12, true}, {97, 12, false}, {100, 12, false}, {100, 13, true}, {100, 100, true}, {100, 101, false}, {101, 100, false}, {101, 101, false}, {50, 50, true}, {50, 51, false}, {50, -50, false}} {
		if got := impl.WinOk(sliding(c.size, c.step)); got != c.ok {
			t.Fatalf("size %d and step %d: %v", c.size, c.step, got)
		}
	}
	for _, size := range []int{1, 5, 100} {
		for _, d := range []impl.WinDef{tumbling(size), sessions(size)} {
			if !impl.WinOk(d) {
				t.Fatal(d)
			}
			for _, step := range []int{-1, 1, size} {
				d.Step = step
				if impl.WinOk(d) {
					t.Fatal(d)
				}
			}
		}
	}
}

// Every window of a kind is looked at for every definition, so that none is left out or made up.
func TestP8TimesLieInTheirWindowsAndInNoOther(t *testing.T) {
	everyDef(func(d impl.WinDef) {
		all := plainWinsOfKind(d)
		for time := 0; time <= 1000; time++ {
			if time == 230 {
				time = 870
			}
			want := []impl.Win{}
			for _, w := range all {
				if plainContains(w, time) {
					want = append(want, w)
				}
			}
			if d.Kind == impl.WinSession {
				want = append(want, win(time, time+d.Size))
			}
			got := impl.WinsOf(d, time)
			if !slices.Equal(got, want) {
				t.Fatalf("WinsOf(%v, %d) = %v, not %v", d, time, got, want)
			}
			for _, w := range got {
				if !plainContains(w, time) || !plainWinOk(w) {
					t.Fatalf("WinsOf(%v, %d) = %v", d, time, got)
				}
			}
		}
	})
}

func TestP8EveryTimeOfSomeDefinitions(t *testing.T) {
	for _, d := range []impl.WinDef{tumbling(1), tumbling(7), tumbling(99), tumbling(100), sliding(1, 1), sliding(8, 1), sliding(10, 3), sliding(100, 13), sliding(100, 100)} {
		found := map[impl.Win]int{}
		for time := 0; time <= 1000; time++ {
			for _, w := range impl.WinsOf(d, time) {
				found[w]++
			}
		}
		for _, w := range plainWinsOfKind(d) {
			if want := min(w.To, 1001) - w.From; found[w] != want {
				t.Fatalf("%v: %v has %d times, not %d", d, w, found[w], want)
			}
			delete(found, w)
		}
		if len(found) > 0 {
			t.Fatalf("%v: windows %v", d, found)
		}
	}
}

func TestP8SlidingWindowsNearZero(t *testing.T) {
	for time, want := range []int{1, 1, 2, 2, 3, 3, 4, 4, 4, 4, 4, 4} {
		got := impl.WinsOf(sliding(8, 2), time)
		if len(got) != want || got[0].From != max(0, time/2*2-6) || got[want-1].From != time/2*2 {
			t.Fatalf("the time %d has the windows %v", time, got)
		}
	}
	// With a step that does not divide the size, the number of windows varies.
	for time, want := range [][]impl.Win{{{From: 0, To: 5}}, {{From: 0, To: 5}}, {{From: 0, To: 5}}, {{From: 0, To: 5}, {From: 3, To: 8}}, {{From: 0, To: 5}, {From: 3, To: 8}}, {{From: 3, To: 8}}, {{From: 3, To: 8}, {From: 6, To: 11}}} {
		if got := impl.WinsOf(sliding(5, 3), time); !slices.Equal(got, want) {
			t.Fatalf("the time %d has the windows %v", time, got)
		}
	}
	if got := impl.WinsOf(sliding(100, 13), 0); !slices.Equal(got, []impl.Win{{From: 0, To: 100}}) {
		t.Fatal(got)
	}
}

func TestWinsOfTimesAtTheLimits(t *testing.T) {
	everyDef(func(d impl.WinDef) {
		for _, time := range []int{math.MinInt, math.MinInt + d.Size, -d.Size, -1, 1001, 1000 + d.Size, 1 << 32, math.MaxInt - d.Size, math.MaxInt} {
			if got := impl.WinsOf(d, time); len(got) > 0 {
				t.Fatalf("WinsOf(%v, %d) = %v", d, time, got)
			}
		}
		if first, last := impl.WinsOf(d, 0), impl.WinsOf(d, 1000); !slices.Equal(first, []impl.Win{{From: 0, To: d.Size}}) || len(last) == 0 {
			t.Fatalf("%v: %v and %v", d, first, last)
		}
	})
	if got := impl.WinsOf(sessions(100), 1000); !slices.Equal(got, []impl.Win{{From: 1000, To: 1100}}) {
		t.Fatal(got)
	}
	if got := impl.WinsOf(tumbling(100), 1000); !slices.Equal(got, []impl.Win{{From: 1000, To: 1100}}) {
		t.Fatal(got)
	}
	if got := impl.WinsOf(tumbling(99), 1000); !slices.Equal(got, []impl.Win{{From: 990, To: 1089}}) {
		t.Fatal(got)
	}
}

func TestSessOkWindowsAtTheLimits(t *testing.T) {
	ends := []int{math.MinInt, -1101, -1, 0, 1, 2, 999, 1000, 1001, 1099, 1100, 1101, 1 << 32, math.MaxInt}
	for _, from := range ends {
		for _, to := range ends {
			w := win(from, to)
			if got := impl.SessOk([]impl.Win{w}); got != plainWinOk(w) {
				t.Fatalf("SessOk of %v is %v", w, got)
			}
			if _, ok := checkAdd(t, nil, w); ok != plainWinOk(w) {
				t.Fatalf("SessAdd of %v returns %v", w, ok)
			}
			checkAdd(t, []impl.Win{{From: 1, To: 2}, {From: 2, To: 1000}}, w)
			checkAt(t, []impl.Win{w})
			if !plainWinOk(w) {
				refuseSessions(t, []impl.Win{w})
			}
		}
	}
	if !impl.SessOk(nil) || !impl.SessOk([]impl.Win{}) || !impl.SessOk([]impl.Win{{From: 0, To: 1100}}) {
		t.Fatal("valid lists")
	}
}

func TestSessOkEveryShortList(t *testing.T) {
	all := []impl.Win{}
	for from := -1; from <= 5; from++ {
		for to := -1; to <= 5; to++ {
			all = append(all, win(from, to))
		}
	}
	for _, a := range all {
		for _, b := range all {
			pair := []impl.Win{a, b}
			if got := impl.SessOk(pair); got != plainSessOk(pair) {
				t.Fatalf("SessOk(%v) = %v", pair, got)
			}
			for _, c := range all {
				if list := []impl.Win{a, b, c}; impl.SessOk(list) != plainSessOk(list) {
					t.Fatalf("SessOk(%v) = %v", list, impl.SessOk(list))
				}
			}
		}
	}
}

func TestSessInvalidLists(t *testing.T) {
	for _, list := range [][]impl.Win{
		{{From: 3, To: 5}, {From: 4, To: 6}},
		{{From: 3, To: 5}, {From: 3, To: 5}},
		{{From: 5, To: 9}, {From: 1, To: 3}},
		{{From: 5, To: 9}, {From: 1, To: 5}},
		{{From: 0, To: 9}, {From: 4, To: 5}},
		{{From: 0, To: 3}, {From: 3, To: 3}, {From: 3, To: 5}},
		{{From: 0, To: 3}, {From: 5, To: 4}},
		{{From: 0, To: 3}, {From: 1099, To: 1101}},
		{{From: -1, To: 3}, {From: 5, To: 6}},
		{{From: 0, To: 3}, {From: math.MinInt, To: math.MaxInt}},
		{{From: 0, To: 2}, {From: 4, To: 8}, {From: 7, To: 9}, {From: 10, To: 11}},
	} {
		refuseSessions(t, list)
	}
	for bad := range 300 {
		list := fullSessions()
		list[bad].To = list[bad].From
		if impl.SessOk(list) || impl.SessAt(list, 0) != -1 || impl.SessAt(list, 898) != -1 {
			t.Fatalf("session %d is not valid", bad)
		}
		list[bad].To += 4
		if impl.SessOk(list) != (bad == 299) {
			t.Fatalf("session %d overlaps the next", bad)
		}
	}
}

func TestP8WindowsThatOnlyTouch(t *testing.T) {
	list := []impl.Win{{From: 10, To: 20}, {From: 30, To: 40}}
	for _, c := range []struct {
		w    impl.Win
		want []impl.Win
	}{
		{win(5, 10), []impl.Win{{From: 5, To: 10}, {From: 10, To: 20}, {From: 30, To: 40}}},
		{win(5, 11), []impl.Win{{From: 5, To: 20}, {From: 30, To: 40}}},
		{win(20, 25), []impl.Win{{From: 10, To: 20}, {From: 20, To: 25}, {From: 30, To: 40}}},
		{win(19, 25), []impl.Win{{From: 10, To: 25}, {From: 30, To: 40}}},
		{win(20, 30), []impl.Win{{From: 10, To: 20}, {From: 20, To: 30}, {From: 30, To: 40}}},
		{win(19, 30), []impl.Win{{From: 10, To: 30}, {From: 30, To: 40}}},
		{win(20, 31), []impl.Win{{From: 10, To: 20}, {From: 20, To: 40}}},
		{win(19, 31), []impl.Win{{From: 10, To: 40}}},
		{win(40, 41), []impl.Win{{From: 10, To: 20}, {From: 30, To: 40}, {From: 40, To: 41}}},
		{win(39, 41), []impl.Win{{From: 10, To: 20}, {From: 30, To: 41}}},
		{win(12, 13), list}, {win(10, 20), list}, {win(10, 11), list}, {win(19, 20), list},
		{win(9, 21), []impl.Win{{From: 9, To: 21}, {From: 30, To: 40}}},
		{win(0, 1100), []impl.Win{{From: 0, To: 1100}}},
	} {
		if got := mustAdd(t, list, c.w); !slices.Equal(got, c.want) {
			t.Fatalf("%v becomes %v", c.w, got)
		}
	}
	// Touching sessions stay apart until a window overlaps both of them.
	row := mustSess(t, 5, 10, 0, 5, 15)
	if !slices.Equal(row, []impl.Win{{From: 0, To: 5}, {From: 5, To: 10}, {From: 10, To: 15}, {From: 15, To: 20}}) {
		t.Fatal(row)
	}
	if got := mustAdd(t, row, win(9, 11)); !slices.Equal(got, []impl.Win{{From: 0, To: 5}, {From: 5, To: 15}, {From: 15, To: 20}}) {
		t.Fatal(got)
	}
	if got := mustAdd(t, row, win(4, 16)); !slices.Equal(got, []impl.Win{{From: 0, To: 20}}) {
		t.Fatal(got)
	}
	// The same window does not touch itself: it overlaps.
	if got := mustSess(t, 1, 7, 8, 7, 6); !slices.Equal(got, []impl.Win{{From: 6, To: 7}, {From: 7, To: 8}, {From: 8, To: 9}}) {
		t.Fatal(got)
	}
}

func TestP8EveryAddition(t *testing.T) {
	for _, shift := range []int{0, 500, 1093} {
		for _, list := range everySessions(shift, shift+7) {
			checkAt(t, list)
			for from := shift - 1; from <= shift+8; from++ {
				for to := shift - 1; to <= shift+8; to++ {
					got, ok := checkAdd(t, list, win(from, to))
					if ok && !slices.Equal(mustAdd(t, got, win(from, to)), got) {
						t.Fatalf("%v is added twice to %v", win(from, to), list)
					}
				}
			}
		}
	}
}

func TestP8EveryJoin(t *testing.T) {
	all := everySessions(0, 5)
	for _, a := range all {
		for _, b := range all {
			if joined := mustJoin(t, a, b); !slices.Equal(joined, mustJoin(t, b, a)) {
				t.Fatalf("the order of %v and %v matters", a, b)
			}
		}
		if !slices.Equal(mustJoin(t, a, a), a) || !slices.Equal(mustJoin(t, a, nil), a) || !slices.Equal(mustJoin(t, nil, a), a) {
			t.Fatal(a)
		}
	}
	few := everySessions(1096, 1100)
	for _, a := range few {
		for _, b := range few {
			left := mustJoin(t, a, b)
			for _, c := range few {
				if first, last := mustJoin(t, left, c), mustJoin(t, a, mustJoin(t, b, c)); !slices.Equal(first, last) {
					t.Fatalf("%v, %v and %v are joined to %v and %v", a, b, c, first, last)
				}
			}
		}
	}
}

// Every list of a few times is sorted, and divided into two groups in every way.
func TestP8EveryGroupingOfFewTimes(t *testing.T) {
	for size := 1; size <= 4; size++ {
		for code := range 7 * 7 * 7 * 7 {
			times := []int{code % 7, code / 7 % 7, code / 49 % 7, code / 343}
			sorted := slices.Sorted(slices.Values(times))
			want := mustSess(t, size, sorted...)
			if got := mustSess(t, size, times...); !slices.Equal(got, want) {
				t.Fatalf("the order of %v matters: %v and %v", times, got, want)
			}
			for mask := range 16 {
				groups := [2][]int{}
				for i, time := range times {
					groups[mask>>i&1] = append(groups[mask>>i&1], time)
				}
				if got := mustJoin(t, mustSess(t, size, groups[0]...), mustSess(t, size, groups[1]...)); !slices.Equal(got, want) {
					t.Fatalf("the groups %v become %v, not %v", groups, got, want)
				}
			}
		}
	}
}

func TestP8ManyTimesInAnyOrderAndGroups(t *testing.T) {
	draw, apart := draws(), 0
	for round := range 60 {
		size, times := 1+draw(4), []int{}
		if round%4 == 0 {
			size = 1 + draw(100)
		}
		for range 1 + draw(300) {
			times = append(times, draw(1001))
		}
		want := mustSess(t, size, times...)
		if len(want) > 50 {
			apart++
		}
		if got := mustSess(t, size, shuffled(draw, times)...); !slices.Equal(got, want) {
			t.Fatalf("the order of %v matters", times)
		}
		groups := make([][]int, 1+draw(6))
		for _, time := range times {
			k := draw(len(groups))
			groups[k] = append(groups[k], time)
		}
		joined, one := []impl.Win{}, []impl.Win{}
		for _, group := range groups {
			joined = mustJoin(t, mustSess(t, size, group...), joined)
		}
		for _, time := range times {
			one = mustAdd(t, one, impl.WinsOf(sessions(size), time)[0])
		}
		if !slices.Equal(joined, want) || !slices.Equal(one, want) {
			t.Fatalf("the groups %v become %v, not %v", groups, joined, want)
		}
		checkAt(t, want)
		for _, time := range times {
			if at := impl.SessAt(want, time); at < 0 || !plainContains(want[at], time) {
				t.Fatalf("the time %d is in the session %d of %v", time, at, want)
			}
		}
	}
	if apart < 10 {
		t.Fatalf("only %d lists have many sessions", apart)
	}
}

func TestP8WindowConnectsSeveralSessions(t *testing.T) {
	full := fullSessions()
	for n := 2; n <= 300; n++ {
		// Overlap by one time with the first and the last of n sessions.
		if got := mustAdd(t, full, win(1, 3*(n-1)+1)); len(got) != 301-n || got[0] != win(0, 3*(n-1)+2) {
			t.Fatalf("%d sessions become %v", n, got[0])
		}
		// One less: the window only touches the last of them.
		if got := mustAdd(t, full, win(1, 3*(n-1))); len(got) != 302-n || got[0] != win(0, 3*(n-1)) {
			t.Fatalf("%d sessions become %v", n-1, got[0])
		}
	}
	if got := mustAdd(t, full, win(450, 452)); !slices.Equal(got, full) {
		t.Fatal("a session is added again")
	}
}

func TestSessAddToFullList(t *testing.T) {
	full := fullSessions()
	if !impl.SessOk(full) || len(full) != impl.MaxSess || impl.SessAt(full, 897) != 299 {
		t.Fatal("MaxSess sessions")
	}
	checkAt(t, full)
	for i := range 300 {
		// Between two sessions, touching both of them.
		if _, ok := checkAdd(t, full, win(3*i+2, 3*i+3)); ok {
			t.Fatalf("a session after %d makes one too many", i)
		}
		if got := mustAdd(t, full, win(3*i+1, 3*i+3)); len(got) != 300 || got[i] != win(3*i, 3*i+3) {
			t.Fatalf("session %d becomes %v", i, got[i])
		}
	}
	for _, w := range []impl.Win{{From: 899, To: 900}, {From: 1000, To: 1100}} {
		if _, ok := checkAdd(t, full, w); ok {
			t.Fatalf("%v makes one too many", w)
		}
		if got := mustAdd(t, full[:299], w); len(got) != 300 || got[299] != w {
			t.Fatalf("%v is the last of %d", w, len(got))
		}
		refuseSessions(t, append(slices.Clone(full), w))
	}
	if got := mustAdd(t, full[1:], win(0, 3)); len(got) != 300 || got[0] != win(0, 3) || got[1] != win(3, 5) {
		t.Fatal("a first session that touches the next")
	}
	if got := mustAdd(t, full, win(0, 1100)); !slices.Equal(got, []impl.Win{{From: 0, To: 1100}}) {
		t.Fatal(got)
	}
}

// The additions of a join are made in order, so that one too many in between makes it fail.
func TestSessJoinWithFullList(t *testing.T) {
	full := fullSessions()
	late := []impl.Win{{From: 2, To: 3}, {From: 4, To: 1000}}
	if _, ok := checkJoin(t, full, late); ok {
		t.Fatal("the first addition fails")
	}
	if got := mustJoin(t, late, full); !slices.Equal(got, []impl.Win{{From: 0, To: 2}, {From: 2, To: 3}, {From: 3, To: 1000}}) {
		t.Fatal(got)
	}
	if got := mustJoin(t, full, []impl.Win{{From: 0, To: 4}, {From: 5, To: 6}}); len(got) != 300 || got[0] != win(0, 5) || got[1] != win(5, 6) {
		t.Fatal("the first addition makes room")
	}
	if _, ok := checkJoin(t, full, []impl.Win{{From: 0, To: 4}, {From: 5, To: 6}, {From: 1099, To: 1100}}); ok {
		t.Fatal("the last addition fails")
	}
	if got := mustJoin(t, full, full); !slices.Equal(got, full) {
		t.Fatal("joined with itself")
	}
	if got := mustJoin(t, full[:150], full[150:]); !slices.Equal(got, full) {
		t.Fatal("joined halves")
	}
	if _, ok := checkJoin(t, []impl.Win{{From: 1000, To: 1001}}, full); ok {
		t.Fatal("one too many")
	}
}

func TestSessOfNumberOfTimes(t *testing.T) {
	row := []int{}
	for time := range 301 {
		row = append(row, 300-time)
	}
	for size, want := range map[int]int{1: 300, 2: 1, 100: 1} {
		if got := mustSess(t, size, row[:300]...); len(got) != want {
			t.Fatalf("%d sessions of the size %d", len(got), size)
		}
		if _, ok := checkOf(t, sessions(size), row); ok {
			t.Fatalf("301 times of the size %d", size)
		}
	}
	// The times are counted, not the sessions.
	if got := mustSess(t, 5, slices.Repeat([]int{1000}, 300)...); !slices.Equal(got, []impl.Win{{From: 1000, To: 1005}}) {
		t.Fatal(got)
	}
	if _, ok := checkOf(t, sessions(5), slices.Repeat([]int{1000}, 301)); ok {
		t.Fatal("301 equal times")
	}
	if got := mustSess(t, 5); len(got) != 0 {
		t.Fatal(got)
	}
}

func TestSessOfInvalid(t *testing.T) {
	for _, d := range []impl.WinDef{tumbling(4), sliding(4, 2), sessions(0), sessions(101), sessions(-4), {Kind: 3, Size: 4, Step: 1}, {Size: 4}, {Kind: 4, Size: 4}, {}} {
		for _, times := range [][]int{nil, {1}, {1, 2, 3}, {1001}} {
			if _, ok := checkOf(t, d, times); ok {
				t.Fatalf("SessOf(%v, %v)", d, times)
			}
		}
	}
	for _, time := range numbersAround(0, 1000) {
		for _, times := range [][]int{{time}, {time, 5, 6}, {5, time, 6}, {5, 6, time}} {
			if _, ok := checkOf(t, sessions(100), times); ok != (time >= 0 && time <= 1000) {
				t.Fatalf("the times %v: %v", times, ok)
			}
		}
	}
	if got := mustSess(t, 100, 1000, 0); !slices.Equal(got, []impl.Win{{From: 0, To: 100}, {From: 1000, To: 1100}}) {
		t.Fatal(got)
	}
	if got := mustSess(t, 1, 1000, 0); !slices.Equal(got, []impl.Win{{From: 0, To: 1}, {From: 1000, To: 1001}}) {
		t.Fatal(got)
	}
}

func TestSessAtEnds(t *testing.T) {
	list := []impl.Win{{From: 0, To: 3}, {From: 3, To: 4}, {From: 6, To: 9}, {From: 1000, To: 1100}}
	for time, want := range map[int]int{-1: -1, 0: 0, 2: 0, 3: 1, 4: -1, 5: -1, 6: 2, 8: 2, 9: -1, 999: -1, 1000: 3, 1001: 3, 1099: 3, 1100: -1, 1101: -1, math.MinInt: -1, math.MaxInt: -1} {
		if got := impl.SessAt(list, time); got != want {
			t.Fatalf("the time %d is in the session %d", time, got)
		}
	}
	checkAt(t, nil)
	checkAt(t, list)
	checkAt(t, append(slices.Clone(list), win(1100, 1101)))
}

// spoil overwrites a result with all that lies behind it.
func spoil(list []impl.Win) {
	all := list[:cap(list)]
	for i := range all {
		all[i] = win(-7, -7)
	}
}

func TestWinsMemory(t *testing.T) {
	whole := []impl.Win{{From: 1, To: 3}, {From: 5, To: 7}, {From: 7, To: 9}, {From: 4, To: 2}, {From: -1, To: 2000}}
	others := []impl.Win{{From: 2, To: 4}, {From: 20, To: 30}, {From: 25, To: 26}}
	times := []int{8, 2, 5, -1, 1001}
	keptWhole, keptOthers, keptTimes := slices.Clone(whole), slices.Clone(others), slices.Clone(times)
	// What lies beyond the length of a list does not count.
	list, other := whole[:3], others[:2]
	checkAt(t, list)
	for range 2 {
		for _, w := range []impl.Win{{From: 0, To: 1}, {From: 3, To: 5}, {From: 2, To: 6}, {From: 5, To: 7}, {From: 9, To: 10}, {From: 0, To: 100}} {
			spoil(mustAdd(t, list, w))
		}
		spoil(mustJoin(t, list, other))
		spoil(mustJoin(t, other, list))
		spoil(mustJoin(t, list, nil))
		spoil(mustJoin(t, nil, list))
		spoil(mustJoin(t, list, list))
		spoil(mustSess(t, 3, times[:3]...))
		for _, d := range []impl.WinDef{tumbling(5), sliding(6, 3), sessions(4)} {
			spoil(impl.WinsOf(d, 7))
		}
		if !slices.Equal(whole, keptWhole) || !slices.Equal(others, keptOthers) || !slices.Equal(times, keptTimes) {
			t.Fatal("an argument is changed, or a result shares memory with it")
		}
	}
	TestWinsDocumentExamples(t)
}
