package tests

import (
	"fmt"
	"math"
	"slices"
	"strings"
	"testing"

	"loop.example/g00699/impl"
)

// plainDigits writes a key as the document does, so that prefixes are prefixes of a text.
func plainDigits(key int) string { return fmt.Sprintf("%04b", key) }

func plainFits(p impl.Punct) bool {
	return p.Src >= 0 && p.Src <= 3 && p.Bits >= 0 && p.Bits <= 4 && p.Key >= 0 && p.Key <= 15
}

func plainPunctOk(l impl.Lat, p impl.Punct) bool {
	if !plainFits(p) || !plainOk(l) || p.Label < 0 || p.Label >= l.N {
		return false
	}
	return !strings.Contains(plainDigits(p.Key)[p.Bits:], "1")
}

func plainHas(p impl.Punct, src int, key int) bool {
	if !plainFits(p) || src != p.Src || key < 0 || key > 15 {
		return false
	}
	return strings.HasPrefix(plainDigits(key), plainDigits(p.Key)[:p.Bits])
}

func plainOrder(p impl.Punct, q impl.Punct) int {
	return slices.Compare([]int{p.Src, p.Bits, p.Key}, []int{q.Src, q.Bits, q.Key})
}

func plainPolicyOk(l impl.Lat, list []impl.Punct) bool {
	if !plainOk(l) || len(list) > 12 {
		return false
	}
	for i, p := range list {
		if !plainPunctOk(l, p) || i > 0 && plainOrder(list[i-1], p) >= 0 {
			return false
		}
	}
	return true
}

// plainFor looks at every entry of a valid policy and keeps the longest one that matches.
func plainFor(l impl.Lat, list []impl.Punct, src int, key int) int {
	most, label := -1, plainTop(l)
	for _, p := range list {
		if plainHas(p, src, key) && p.Bits > most {
			most, label = p.Bits, p.Label
		}
	}
	return label
}

func plainTop(l impl.Lat) int {
	for a := 0; a < l.N; a++ {
		if l.Up[a] == 1<<a {
			return a
		}
	}
	return -1
}

// plainSet returns the policy with p, sorted, however many entries it has.
func plainSet(list []impl.Punct, p impl.Punct) []impl.Punct {
	result := append(plainDrop(list, p), p)
	slices.SortFunc(result, plainOrder)
	return result
}

func plainDrop(list []impl.Punct, p impl.Punct) []impl.Punct {
	result := []impl.Punct{}
	for _, q := range list {
		if plainOrder(p, q) != 0 {
			result = append(result, q)
		}
	}
	return result
}

// numbersAround returns lo - 1 .. hi + 1 and numbers far from them, some of which wrap around to small ones.
func numbersAround(lo int, hi int) []int {
	list := []int{-16, 16, 32, 64, 1 << 32, math.MaxInt, math.MaxInt - 1, math.MinInt, math.MinInt + 1}
	for n := lo - 1; n <= hi+1; n++ {
		if !slices.Contains(list, n) {
			list = append(list, n)
		}
	}
	return list
}

// draws returns a function that yields numbers in 0..n - 1, in the same order in every run.
func draws() func(n int) int {
	state := uint32(1)
	return func(n int) int {
		state = state*1664525 + 1013904223
		return int(state>>16) % n
	}
}

// allPrefixes returns every valid entry of a source, with that label.
func allPrefixes(src int, label int) []impl.Punct {
	list := []impl.Punct{}
	for bits := 0; bits <= 4; bits++ {
		for key := 0; key <= 15; key += 16 >> bits {
			list = append(list, impl.Punct{Src: src, Bits: bits, Key: key, Label: label})
		}
	}
	return list
}

// prefixesOf returns the five entries that match a key, from the shortest, with labels in turn.
func prefixesOf(src int, key int, labels int) []impl.Punct {
	list := []impl.Punct{}
	for bits := 0; bits <= 4; bits++ {
		rest := 16 >> bits
		list = append(list, impl.Punct{Src: src, Bits: bits, Key: key / rest * rest, Label: bits % labels})
	}
	return list
}

// fullPolicy returns MaxPolicy entries: three of each source.
func fullPolicy() []impl.Punct {
	list := []impl.Punct{}
	for src := 0; src < 4; src++ {
		list = append(list, impl.Punct{Src: src, Label: src}, impl.Punct{Src: src, Bits: 2, Key: 12, Label: 2}, impl.Punct{Src: src, Bits: 4, Key: 15})
	}
	return list
}

func badLats() []impl.Lat {
	return []impl.Lat{{}, {N: 1}, {N: -1, Up: []uint64{1}}, {N: 2, Up: []uint64{1, 2}}, {N: 2, Up: []uint64{3, 3}}, {N: 4, Up: []uint64{15, 10, 12, 0}}}
}

func checkFor(t *testing.T, l impl.Lat, list []impl.Punct) {
	t.Helper()
	for src := 0; src < 4; src++ {
		for key := 0; key <= 15; key++ {
			if got, want := impl.PolicyFor(l, list, src, key), plainFor(l, list, src, key); got != want {
				t.Fatalf("%v: source %d and key %d have the label %d, not %d", list, src, key, got, want)
			}
		}
	}
}

func mustSet(t *testing.T, l impl.Lat, list []impl.Punct, p impl.Punct) []impl.Punct {
	t.Helper()
	result, ok := impl.PolicySet(l, list, p)
	if want := plainSet(list, p); !ok || !slices.Equal(result, want) || !impl.PolicyOk(l, result) {
		t.Fatalf("%v and %v: set %v, %v, not %v", list, p, result, ok, want)
	}
	return result
}

func mustDrop(t *testing.T, l impl.Lat, list []impl.Punct, p impl.Punct) []impl.Punct {
	t.Helper()
	result, ok := impl.PolicyDrop(l, list, p)
	if want := plainDrop(list, p); !ok || !slices.Equal(result, want) || !impl.PolicyOk(l, result) {
		t.Fatalf("%v and %v: drop %v, %v, not %v", list, p, result, ok, want)
	}
	return result
}

func refuseSet(t *testing.T, l impl.Lat, list []impl.Punct, p impl.Punct) {
	t.Helper()
	if result, ok := impl.PolicySet(l, list, p); ok || len(result) != 0 {
		t.Fatalf("%v and %v: set %v, %v", list, p, result, ok)
	}
}

func refuseDrop(t *testing.T, l impl.Lat, list []impl.Punct, p impl.Punct) {
	t.Helper()
	if result, ok := impl.PolicyDrop(l, list, p); ok || len(result) != 0 {
		t.Fatalf("%v and %v: drop %v, %v", list, p, result, ok)
	}
}

// refusePolicy checks what every function answers for a policy that is not valid.
func refusePolicy(t *testing.T, l impl.Lat, list []impl.Punct) {
	t.Helper()
	if impl.PolicyOk(l, list) || impl.PolicyFor(l, list, 0, 0) != -1 || impl.PolicyFor(l, list, 3, 15) != -1 {
		t.Fatalf("%v: %v is accepted", l, list)
	}
	refuseSet(t, l, list, impl.Punct{})
	refuseSet(t, l, list, impl.Punct{Src: 3, Bits: 4, Key: 15})
	refuseDrop(t, l, list, impl.Punct{})
	// Not even what is in it can be taken out or set again.
	for _, p := range list {
		refuseSet(t, l, list, p)
		refuseDrop(t, l, list, p)
	}
}

func TestPolicyLimits(t *testing.T) {
	if impl.MaxKey != 15 || impl.KeyBits != 4 || impl.MaxPolicy != 12 || impl.MaxSources != 4 {
		t.Fatal("limits")
	}
}

func TestPunctOkAroundTheLimits(t *testing.T) {
	for _, l := range append(badLats(), chain(t, 1), diamond(t), subsets()) {
		for _, src := range numbersAround(0, 3) {
			for _, bits := range numbersAround(0, 4) {
				for _, key := range numbersAround(0, 15) {
					for _, label := range []int{math.MinInt, -1, 0, l.N - 1, l.N, 16, math.MaxInt} {
						p := impl.Punct{Src: src, Bits: bits, Key: key, Label: label}
						if impl.PunctOk(l, p) != plainPunctOk(l, p) {
							t.Fatalf("PunctOk(%v, %v) = %v", l, p, impl.PunctOk(l, p))
						}
					}
				}
			}
		}
	}
}

func TestPunctHasAroundTheLimits(t *testing.T) {
	for _, src := range numbersAround(0, 3) {
		for _, bits := range numbersAround(0, 4) {
			for _, key := range numbersAround(0, 15) {
				p := impl.Punct{Src: src, Bits: bits, Key: key, Label: math.MinInt}
				for _, other := range numbersAround(0, 15) {
					for _, from := range []int{src, src ^ 1, 0, 3, 4, -1} {
						if impl.PunctHas(p, from, other) != plainHas(p, from, other) {
							t.Fatalf("PunctHas(%v, %d, %d) = %v", p, from, other, impl.PunctHas(p, from, other))
						}
					}
				}
			}
		}
	}
}

func TestPolicyDocumentExample(t *testing.T) {
	p := impl.Punct{Bits: 2, Key: 12}
	if !impl.PunctHas(p, 0, 15) || impl.PunctHas(p, 0, 11) {
		t.Fatal("keys 15 and 11")
	}
	// The digits after the first Bits of an entry's Key are not compared, though they make the entry not valid.
	open := impl.Punct{Bits: 2, Key: 13}
	if !impl.PunctHas(open, 0, 15) || impl.PunctHas(open, 0, 11) || impl.PunctOk(diamond(t), open) || !impl.PunctOk(diamond(t), p) {
		t.Fatal("keys 12 and 13")
	}
}

func TestP6KeysThatNoEntryMatchesHaveTheTopLabel(t *testing.T) {
	// The top label is the last one, the first one, or the only one.
	for _, l := range []impl.Lat{diamond(t), fan(t, 5), chain(t, 1), chain(t, 16)} {
		checkFor(t, l, nil)
		checkFor(t, l, []impl.Punct{})
		if impl.PolicyFor(l, nil, 0, 0) != plainTop(l) || impl.PolicyFor(l, nil, 3, 15) != plainTop(l) {
			t.Fatal("empty policy")
		}
		for label := 0; label < l.N; label++ {
			for _, p := range allPrefixes(2, label) {
				checkFor(t, l, []impl.Punct{p})
			}
		}
	}
	if impl.PolicyFor(fan(t, 5), nil, 0, 0) != 0 || impl.PolicyFor(diamond(t), nil, 0, 0) != 3 {
		t.Fatal("top labels")
	}
}

func TestP6EveryPairOfPrefixes(t *testing.T) {
	l := diamond(t)
	for _, src := range []int{1, 2} {
		for _, p := range allPrefixes(1, 1) {
			for _, q := range allPrefixes(src, 2) {
				list := mustSet(t, l, mustSet(t, l, nil, p), q)
				checkFor(t, l, list)
				if back := mustSet(t, l, mustSet(t, l, nil, q), p); plainOrder(p, q) != 0 && !slices.Equal(list, back) {
					t.Fatalf("%v and %v: the order of setting matters", p, q)
				}
			}
		}
	}
}

func TestP6LongerPrefixesOfOneKey(t *testing.T) {
	l := chain(t, 6)
	for key := 0; key <= 15; key++ {
		entries := prefixesOf(3, key, 5)
		for chosen := 0; chosen < 32; chosen++ {
			var list []impl.Punct
			want := 5
			for i := range entries {
				// The shorter prefixes come last on every second pass.
				at := i
				if chosen%2 == 1 {
					at = 4 - i
				}
				if chosen>>at&1 == 1 {
					list = mustSet(t, l, list, entries[at])
				}
			}
			for bits, p := range entries {
				if chosen>>bits&1 == 1 {
					want = p.Label
				}
			}
			if got := impl.PolicyFor(l, list, 3, key); got != want {
				t.Fatalf("%v: key %d has the label %d, not %d", list, key, got, want)
			}
			checkFor(t, l, list)
		}
	}
}

// The label of a longer prefix counts whether it is above or below that of a shorter one, or beside it.
func TestP6LongerPrefixWithAnyLabel(t *testing.T) {
	l := diamond(t)
	for short := 0; short < 4; short++ {
		for long := 0; long < 4; long++ {
			list := mustSet(t, l, mustSet(t, l, nil, impl.Punct{Bits: 3, Key: 10, Label: long}), impl.Punct{Bits: 1, Key: 8, Label: short})
			if impl.PolicyFor(l, list, 0, 10) != long || impl.PolicyFor(l, list, 0, 11) != long || impl.PolicyFor(l, list, 0, 9) != short || impl.PolicyFor(l, list, 0, 12) != short || impl.PolicyFor(l, list, 0, 7) != 3 {
				t.Fatalf("labels %d and %d", short, long)
			}
		}
	}
}

// TestP6SetAndDrop follows a long fixed sequence of changes with a plain list beside it.
func TestP6SetAndDrop(t *testing.T) {
	l := fan(t, 5)
	var list []impl.Punct
	draw, fullTimes := draws(), 0
	for range 3000 {
		all := allPrefixes(draw(2), draw(l.N))
		p := all[draw(len(all))]
		before := list
		there := len(plainDrop(list, p)) < len(list)
		switch {
		case draw(3) == 0 && there:
			list = mustDrop(t, l, list, p)
		case draw(3) == 0 && len(list) > 0:
			list = mustDrop(t, l, list, list[draw(len(list))])
		case len(list) == 12 && !there:
			fullTimes++
			refuseSet(t, l, list, p)
			refuseDrop(t, l, list, p)
		default:
			list = mustSet(t, l, list, p)
			checkSpread(t, l, before, list, p)
		}
		checkFor(t, l, list)
	}
	if fullTimes < 100 {
		t.Fatalf("the policy was full only %d times", fullTimes)
	}
}

// checkSpread is promise 6 for one change: the label of p reaches the keys of its prefix that have no longer one, and no other key changes.
func checkSpread(t *testing.T, l impl.Lat, before []impl.Punct, after []impl.Punct, p impl.Punct) {
	t.Helper()
	for src := 0; src < 4; src++ {
		for key := 0; key <= 15; key++ {
			want := impl.PolicyFor(l, before, src, key)
			longer := slices.ContainsFunc(before, func(q impl.Punct) bool { return q.Bits > p.Bits && impl.PunctHas(q, src, key) })
			if impl.PunctHas(p, src, key) && !longer {
				want = p.Label
			}
			if impl.PolicyFor(l, after, src, key) != want {
				t.Fatalf("%v after %v: source %d and key %d", p, before, src, key)
			}
		}
	}
}

func TestPolicyFull(t *testing.T) {
	l, full := diamond(t), fullPolicy()
	if len(full) != 12 || !impl.PolicyOk(l, full) {
		t.Fatal(full)
	}
	checkFor(t, l, full)
	refuseSet(t, l, full, impl.Punct{Src: 1, Bits: 1, Key: 8})
	refuseSet(t, l, full, impl.Punct{Src: 0, Bits: 1})
	refuseSet(t, l, full, impl.Punct{Src: 3, Bits: 4, Key: 14, Label: 3})
	for i, p := range full {
		p.Label = (p.Label + 1) % 4
		if list := mustSet(t, l, full, p); len(list) != 12 || list[i] != p {
			t.Fatalf("%v is not replaced: %v", p, list)
		}
		less := mustDrop(t, l, full, p)
		if back := mustSet(t, l, less, full[i]); len(less) != 11 || !slices.Equal(back, full) {
			t.Fatalf("%v is not set again: %v", p, back)
		}
		mustSet(t, l, less, impl.Punct{Src: 2, Bits: 3, Key: 6, Label: 1})
	}
}

func TestPolicyThirteenInOrder(t *testing.T) {
	l := diamond(t)
	list := plainSet(fullPolicy(), impl.Punct{Src: 1, Bits: 3, Key: 2})
	if len(list) != 13 || plainPolicyOk(l, list) || !plainPolicyOk(l, list[:12]) || !plainPolicyOk(l, list[1:]) {
		t.Fatal(list)
	}
	refusePolicy(t, l, list)
	if !impl.PolicyOk(l, allPrefixes(0, 0)[:12]) {
		t.Fatal("twelve entries of one source")
	}
	refusePolicy(t, l, allPrefixes(0, 0)[:13])
	refusePolicy(t, l, allPrefixes(0, 0))
}

func TestPolicyDrop(t *testing.T) {
	l := diamond(t)
	list := mustSet(t, l, mustSet(t, l, nil, impl.Punct{Src: 1, Bits: 2, Key: 8, Label: 1}), impl.Punct{Src: 1, Bits: 3, Key: 8, Label: 2})
	// The label of what is dropped does not count.
	for _, label := range []int{0, 1, 2, 4, -1, math.MaxInt, math.MinInt} {
		less := mustDrop(t, l, list, impl.Punct{Src: 1, Bits: 3, Key: 8, Label: label})
		if impl.PolicyFor(l, less, 1, 9) != 1 || impl.PolicyFor(l, list, 1, 9) != 2 {
			t.Fatal(less)
		}
		none := mustDrop(t, l, less, impl.Punct{Src: 1, Bits: 2, Key: 8, Label: label})
		if len(none) != 0 || impl.PolicyFor(l, none, 1, 9) != 3 {
			t.Fatal(none)
		}
		refuseDrop(t, l, none, impl.Punct{Src: 1, Bits: 2, Key: 8, Label: label})
	}
	for _, src := range numbersAround(0, 3) {
		for _, bits := range numbersAround(0, 4) {
			for _, key := range numbersAround(0, 15) {
				p := impl.Punct{Src: src, Bits: bits, Key: key}
				if src == 1 && key == 8 && (bits == 2 || bits == 3) {
					mustDrop(t, l, list, p)
				} else {
					refuseDrop(t, l, list, p)
				}
			}
		}
	}
	refuseDrop(t, l, nil, impl.Punct{})
}

func TestPolicySetInvalid(t *testing.T) {
	l, list := diamond(t), []impl.Punct{{Src: 1, Bits: 1, Key: 8, Label: 1}}
	for _, src := range numbersAround(0, 3) {
		for _, bits := range numbersAround(0, 4) {
			for _, key := range numbersAround(0, 15) {
				for _, label := range []int{-1, 0, 3, 4, math.MaxInt, math.MinInt} {
					p := impl.Punct{Src: src, Bits: bits, Key: key, Label: label}
					if plainPunctOk(l, p) {
						mustSet(t, l, list, p)
					} else {
						refuseSet(t, l, list, p)
					}
				}
			}
		}
	}
}

func TestPolicyOkEveryOrder(t *testing.T) {
	l := diamond(t)
	ends := []impl.Punct{}
	for _, src := range []int{0, 1, 3} {
		ends = append(ends, allPrefixes(src, 2)...)
	}
	for _, p := range ends {
		for _, q := range ends {
			list := []impl.Punct{p, q}
			if impl.PolicyOk(l, list) != plainPolicyOk(l, list) {
				t.Fatalf("PolicyOk(%v) = %v", list, impl.PolicyOk(l, list))
			}
			if !plainPolicyOk(l, list) {
				refusePolicy(t, l, list)
			}
		}
	}
}

func TestPolicyInvalidEntries(t *testing.T) {
	l := diamond(t)
	bad := []impl.Punct{
		{Src: -1}, {Src: 4}, {Src: math.MaxInt}, {Src: math.MinInt},
		{Src: 3, Bits: -1}, {Src: 3, Bits: 5}, {Src: 3, Bits: math.MaxInt}, {Src: 3, Bits: math.MinInt},
		{Src: 3, Bits: 4, Key: -1}, {Src: 3, Bits: 4, Key: 16}, {Src: 3, Bits: 4, Key: math.MaxInt}, {Src: 3, Bits: 4, Key: math.MinInt},
		{Src: 3, Bits: 0, Key: 1}, {Src: 3, Bits: 0, Key: 8}, {Src: 3, Bits: 1, Key: 4}, {Src: 3, Bits: 2, Key: 14}, {Src: 3, Bits: 3, Key: 15},
		{Src: 3, Bits: 4, Key: 15, Label: -1}, {Src: 3, Bits: 4, Key: 15, Label: 4}, {Src: 3, Bits: 4, Key: 15, Label: math.MaxInt}, {Src: 3, Bits: 4, Key: 15, Label: math.MinInt},
	}
	for _, p := range bad {
		refusePolicy(t, l, []impl.Punct{p})
		refusePolicy(t, l, []impl.Punct{{Src: 1, Label: 1}, p})
		refusePolicy(t, l, []impl.Punct{p, {Src: 3, Bits: 4, Key: 15}})
	}
	fine := []impl.Punct{{Label: 1}, {Src: 1, Label: 1}, {Src: 1, Bits: 1, Key: 8}}
	refusePolicy(t, l, []impl.Punct{fine[0], fine[2], fine[1]})
	refusePolicy(t, l, []impl.Punct{fine[1], fine[0], fine[2]})
	refusePolicy(t, l, []impl.Punct{fine[0], fine[1], fine[1]})
	// The same place twice is refused whatever the labels.
	refusePolicy(t, l, []impl.Punct{{Label: 1}, {Label: 2}})
	refusePolicy(t, l, []impl.Punct{{Label: 2}, {Label: 1}})
	refusePolicy(t, l, make([]impl.Punct, 100000))
}

func TestPolicyInvalidLattice(t *testing.T) {
	for _, l := range badLats() {
		refusePolicy(t, l, nil)
		refusePolicy(t, l, []impl.Punct{{}})
		if impl.PunctOk(l, impl.Punct{}) {
			t.Fatalf("%v is accepted", l)
		}
	}
	// A label that one lattice has and another has not.
	list := []impl.Punct{{Label: 3}}
	if !impl.PolicyOk(diamond(t), list) || impl.PolicyFor(diamond(t), list, 0, 5) != 3 {
		t.Fatal(list)
	}
	refusePolicy(t, chain(t, 3), list)
}

func TestPolicyForInvalid(t *testing.T) {
	l := diamond(t)
	for _, list := range [][]impl.Punct{nil, {{}}, fullPolicy()} {
		for _, src := range numbersAround(0, 3) {
			for _, key := range numbersAround(0, 15) {
				want := -1
				if src >= 0 && src <= 3 && key >= 0 && key <= 15 {
					want = plainFor(l, list, src, key)
				}
				if got := impl.PolicyFor(l, list, src, key); got != want {
					t.Fatalf("%v: source %d and key %d have the label %d, not %d", list, src, key, got, want)
				}
			}
		}
	}
}

func TestPolicyMemory(t *testing.T) {
	l := diamond(t)
	whole := []impl.Punct{{Label: 1}, {Bits: 2, Key: 4, Label: 2}, {Src: 9, Bits: 9}, {Src: 8, Key: 8}}
	kept := slices.Clone(whole)
	list := whole[:2]
	set := mustSet(t, l, list, impl.Punct{Src: 3})
	front := mustSet(t, l, list, impl.Punct{Bits: 1})
	replaced := mustSet(t, l, list, impl.Punct{Bits: 2, Key: 4, Label: 3})
	dropped := mustDrop(t, l, list, impl.Punct{})
	last := mustDrop(t, l, list, impl.Punct{Bits: 2, Key: 4})
	checkFor(t, l, list)
	if !slices.Equal(whole, kept) || !sameLat(l, diamond(t)) {
		t.Fatal("an argument is changed")
	}
	for _, result := range [][]impl.Punct{set, front, replaced, dropped, last} {
		for i := range result[:cap(result)] {
			result[:cap(result)][i] = impl.Punct{Src: 7}
		}
	}
	if !slices.Equal(whole, kept) {
		t.Fatal("a result shares memory with an argument")
	}
	if again := mustSet(t, l, list, impl.Punct{Src: 3}); !slices.Equal(again, append(kept[:2:2], impl.Punct{Src: 3})) {
		t.Fatal("results share memory")
	}
}
