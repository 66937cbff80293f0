package vector_test

import (
	"math/big"
	"slices"
	"testing"

	"entrepot/api"
	"entrepot/vector"
)

// The limits of the chapter, in numbers of the tests' own.
const (
	mostRegions = 16
	heaviest    = 1 << 62
	least       = -1 << 63
	greatest    = 1<<63 - 1
)

// dot is the dot R, N.
func dot(r, n int) api.Dot {
	return api.Dot{R: r, N: n}
}

// number is a vector's number of a region, as the chapter defines it.
func number(v []int, r int) int {
	for i, n := range v {
		if i+1 == r && n > 0 {
			return n
		}
	}
	return 0
}

// under is the definition of a dot under a vector.
func under(v []int, d api.Dot) bool {
	return d.R >= 1 && d.N >= 1 && d.N <= number(v, d.R)
}

// regions are the regions of which one of several vectors has a number, one more, and one that no vector has.
func regions(vectors ...[]int) []int {
	list := []int{0}
	for _, v := range vectors {
		for len(list) <= len(v)+1 {
			list = append(list, len(list))
		}
	}
	return list
}

// atMost is the definition of a vector that is at most another one.
func atMost(v, w []int) bool {
	return !slices.ContainsFunc(regions(v, w), func(r int) bool { return number(v, r) > number(w, r) })
}

// equal is the definition of equal vectors.
func equal(v, w []int) bool {
	return !slices.ContainsFunc(regions(v, w), func(r int) bool { return number(v, r) != number(w, r) })
}

// paired is a list as long as the longer one, with one of both numbers of each region.
func paired(v, w []int, choose func([]int) int) []int {
	list := make([]int, max(len(v), len(w)))
	for i := range list {
		list[i] = choose([]int{number(v, i+1), number(w, i+1)})
	}
	return list
}

// joined and met are what is said of Join and of Meet.
func joined(v, w []int) []int {
	return paired(v, w, slices.Max[[]int])
}

func met(v, w []int) []int {
	return paired(v, w, slices.Min[[]int])
}

// with is what is said of With.
func with(v []int, d api.Dot) []int {
	list := joined(v, nil)
	if d.R < 1 || d.R > mostRegions || d.N <= number(v, d.R) {
		return list
	}
	for len(list) < d.R {
		list = append(list, 0)
	}
	list[d.R-1] = d.N
	return list
}

// next is what is said of Next.
func next(v []int, r int) api.Dot {
	if r < 1 || number(v, r) >= heaviest {
		return dot(0, 0)
	}
	return dot(r, number(v, r)+1)
}

// sum is the sum of all numbers of a vector, however great it is.
func sum(v []int) *big.Int {
	s := new(big.Int)
	for i := range v {
		s.Add(s, big.NewInt(int64(number(v, i+1))))
	}
	return s
}

// weight is the definition of the weight of a vector.
func weight(v []int) int {
	if s := sum(v); s.Cmp(big.NewInt(heaviest)) < 0 {
		return int(s.Int64())
	}
	return heaviest
}

// before is the definition of the order of events.
func before(a api.Dot, deps []int, b api.Dot, other []int) bool {
	for _, pair := range [][2]int{{weight(deps), weight(other)}, {a.R, b.R}, {a.N, b.N}} {
		if pair[0] != pair[1] {
			return pair[0] < pair[1]
		}
	}
	return false
}

// behind is what lies behind the end of each list that is given: nobody may look at it.
const behind = 77

// given is a vector in memory of its own, with something behind its end.
func given(v []int) []int {
	list := append(slices.Clone(v), behind, behind, behind)
	return list[:len(v)]
}

// kept expects a list that was given to be as it was, with what lies behind it.
func kept(t *testing.T, list, v []int) {
	t.Helper()
	if !slices.Equal(list, v) || !slices.Equal(list[len(list):len(list)+3], []int{behind, behind, behind}) {
		t.Fatalf("%v became %v", v, list[:len(list)+3])
	}
}

// result expects a result, and that it shares nothing with lists that were given, to the end of its spare capacity.
func result(t *testing.T, what string, got, want []int, lists ...[]int) {
	t.Helper()
	if !slices.Equal(got, want) {
		t.Fatalf("%s of %v = %v, not %v", what, lists, got, want)
	}
	before := make([][]int, len(lists))
	for i, v := range lists {
		before[i] = slices.Clone(v)
	}
	for i := range got[:cap(got)] {
		got[:cap(got)][i] = -99
	}
	for i, v := range lists {
		kept(t, v, before[i])
	}
}

// checkOne compares what is told of one vector, a region and a dot with the definitions.
func checkOne(t *testing.T, v []int, r int, d api.Dot) {
	t.Helper()
	list := given(v)
	if got, want := vector.At(list, r), number(v, r); got != want {
		t.Fatalf("At(%v, %d) = %d, not %d", v, r, got, want)
	}
	if got, want := vector.Has(list, d), under(v, d); got != want {
		t.Fatalf("Has(%v, %v) = %v, not %v", v, d, got, want)
	}
	if got, want := vector.Next(list, r), next(v, r); got != want {
		t.Fatalf("Next(%v, %d) = %v, not %v", v, r, got, want)
	}
	if got, want := vector.Weight(list), weight(v); got != want {
		t.Fatalf("Weight(%v) = %d, not %d", v, got, want)
	}
	kept(t, list, v)
	result(t, "With", vector.With(list, d), with(v, d), list)
	kept(t, list, v)
}

// checkTwo compares what is told of two vectors with the definitions.
func checkTwo(t *testing.T, v, w []int) {
	t.Helper()
	a, b := given(v), given(w)
	if got, want := vector.Leq(a, b), atMost(v, w); got != want {
		t.Fatalf("Leq(%v, %v) = %v, not %v", v, w, got, want)
	}
	if got, want := vector.Same(a, b), equal(v, w); got != want {
		t.Fatalf("Same(%v, %v) = %v, not %v", v, w, got, want)
	}
	kept(t, a, v)
	kept(t, b, w)
	result(t, "Join", vector.Join(a, b), joined(v, w), a, b)
	result(t, "Meet", vector.Meet(a, b), met(v, w), a, b)
}

// checkOrder compares the order of two events with its definition, both ways round.
func checkOrder(t *testing.T, a api.Dot, deps []int, b api.Dot, other []int) {
	t.Helper()
	v, w := given(deps), given(other)
	if got, want := vector.Less(a, v, b, w), before(a, deps, b, other); got != want {
		t.Fatalf("Less(%v, %v, %v, %v) = %v, not %v", a, deps, b, other, got, want)
	}
	if got, want := vector.Less(b, w, a, v), before(b, other, a, deps); got != want {
		t.Fatalf("Less(%v, %v, %v, %v) = %v, not %v", b, other, a, deps, got, want)
	}
	kept(t, v, deps)
	kept(t, w, other)
}

// lists are all lists of up to so many numbers, each out of some.
func lists(most int, numbers ...int) [][]int {
	all := [][]int{nil}
	for from := 0; most > 0; most-- {
		end := len(all)
		for _, v := range all[from:end] {
			for _, n := range numbers {
				all = append(all, append(slices.Clone(v), n))
			}
		}
		from = end
	}
	return all
}

// row is a list of so many numbers, counted from one on.
func row(length, from int) []int {
	list := make([]int, length)
	for i := range list {
		list[i] = from + i
	}
	return list
}
