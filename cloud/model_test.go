package cloud_test

import (
	"slices"
	"testing"

	"entrepot/api"
	"entrepot/cloud"
)

// The limits of the chapter, in numbers of the tests' own.
const (
	mostRegions = 16
	lastNumber  = 1 << 20
	mostDots    = 4096
	least       = -1 << 63
	greatest    = 1<<63 - 1
)

// dot is the dot R, N.
func dot(r, n int) api.Dot {
	return api.Dot{R: r, N: n}
}

// of is the cloud V; Dots, whatever its form is.
func of(v []int, dots ...api.Dot) api.Cloud {
	return api.Cloud{V: v, Dots: dots}
}

// dotsOf are the dots of a region with some numbers.
func dotsOf(r int, numbers ...int) []api.Dot {
	var list []api.Dot
	for _, n := range numbers {
		list = append(list, dot(r, n))
	}
	return list
}

// every is so many dots of a region, from a number on, each a step after the one before it.
func every(r, from, step, many int) []api.Dot {
	var list []api.Dot
	for i := range many {
		list = append(list, dot(r, from+i*step))
	}
	return list
}

// isDot is the definition of a dot.
func isDot(d api.Dot) bool {
	return 1 <= d.R && d.R <= mostRegions && 1 <= d.N && d.N <= lastNumber
}

// set is a set of dots: the first ones of each region, and others.
type set struct {
	first [mostRegions + 1]int
	more  map[api.Dot]bool
}

// setOf is the set of the first v[i] dots of each region i + 1, and of dots.
func setOf(v []int, dots []api.Dot) *set {
	s := &set{more: map[api.Dot]bool{}}
	for i, n := range v {
		s.first[i+1] = n
	}
	for _, d := range dots {
		s.more[d] = true
	}
	return s
}

// has asks for a dot of the set.
func (s *set) has(d api.Dot) bool {
	return isDot(d) && (d.N <= s.first[d.R] || s.more[d])
}

// unite is both sets together.
func unite(s, u *set) *set {
	all := &set{more: map[api.Dot]bool{}}
	for r := range all.first {
		all.first[r] = max(s.first[r], u.first[r])
	}
	for _, one := range []*set{s, u} {
		for d := range one.more {
			all.more[d] = true
		}
	}
	return all
}

// form is the definition of the canonical form of a set.
func (s *set) form() api.Cloud {
	var v []int
	for r := 1; r <= mostRegions; r++ {
		n := s.first[r]
		for s.has(dot(r, n+1)) {
			n++
		}
		v = append(v, n)
	}
	var others []api.Dot
	for d := range s.more {
		if d.N > v[d.R-1] {
			others = append(others, d)
		}
	}
	slices.SortFunc(others, func(a, b api.Dot) int {
		if a.R == b.R {
			return a.N - b.N
		}
		return a.R - b.R
	})
	for len(v) > 0 && v[len(v)-1] == 0 {
		v = v[:len(v)-1]
	}
	return of(v, others...)
}

// last is the number of the greatest dot of a region in the set.
func (s *set) last(r int) int {
	n := s.first[r]
	for d := range s.more {
		if d.R == r {
			n = max(n, d.N)
		}
	}
	return n
}

// count is the number of dots of the set.
func (s *set) count() int {
	n := 0
	for _, first := range s.first {
		n += first
	}
	for d := range s.more {
		if d.N > s.first[d.R] {
			n++
		}
	}
	return n
}

// same compares two clouds, whose lists may be nil or empty.
func same(a, b api.Cloud) bool {
	return slices.Equal(a.V, b.V) && slices.Equal(a.Dots, b.Dots)
}

// strange reports whether there are too many numbers, or one that is none, or a dot that is none.
func strange(v []int, dots []api.Dot) bool {
	for _, n := range v {
		if n < 0 || n > lastNumber {
			return true
		}
	}
	for _, d := range dots {
		if !isDot(d) {
			return true
		}
	}
	return len(v) > mostRegions
}

// wrong is what is said of Check: a set has one form, so that a cloud in any other one is in none.
func wrong(c api.Cloud) api.Errno {
	if strange(c.V, c.Dots) {
		return api.ErrRange
	}
	if len(c.Dots) > mostDots {
		return api.ErrFull
	}
	if !same(c, setOf(c.V, c.Dots).form()) {
		return api.ErrArg
	}
	return api.OK
}

// made is what is said of Make.
func made(v []int, dots []api.Dot) (api.Cloud, api.Errno) {
	if strange(v, dots) {
		return api.Cloud{}, api.ErrRange
	}
	return fitting(setOf(v, dots).form())
}

// fitting is a cloud, unless it has too many dots.
func fitting(c api.Cloud) (api.Cloud, api.Errno) {
	if len(c.Dots) > mostDots {
		return api.Cloud{}, api.ErrFull
	}
	return c, api.OK
}

// wrongOne is the error of two clouds of which the first one is checked first.
func wrongOne(a, b api.Cloud) api.Errno {
	if err := wrong(a); err != api.OK {
		return err
	}
	return wrong(b)
}

// joined is what is said of Join.
func joined(a, b api.Cloud) (api.Cloud, api.Errno) {
	if err := wrongOne(a, b); err != api.OK {
		return api.Cloud{}, err
	}
	return fitting(unite(setOf(a.V, a.Dots), setOf(b.V, b.Dots)).form())
}

// within is what is said of Leq.
func within(a, b api.Cloud) (bool, api.Errno) {
	if err := wrongOne(a, b); err != api.OK {
		return false, err
	}
	there := setOf(b.V, b.Dots)
	// Where the first n dots of a region are within a set, so is the n-th one, and its own first ones reach as far.
	for i, n := range a.V {
		for n > there.first[i+1] {
			if !there.has(dot(i+1, n)) {
				return false, api.OK
			}
			n--
		}
	}
	for _, d := range a.Dots {
		if !there.has(d) {
			return false, api.OK
		}
	}
	return true, api.OK
}

// next is what is said of Next.
func next(c api.Cloud, r int) (api.Dot, api.Errno) {
	if err := wrong(c); err != api.OK {
		return api.Dot{}, err
	}
	if r < 1 || r > mostRegions {
		return api.Dot{}, api.ErrRange
	}
	n := setOf(c.V, c.Dots).last(r)
	if n == lastNumber {
		return api.Dot{}, api.ErrFull
	}
	return dot(r, n+1), api.OK
}

// behind and gap are what lies behind the ends of lists that are given: nobody may look at it.
const behind = 7

var gap = dot(3, 7)

// given is a cloud in memory of its own, with something behind the ends of its lists.
func given(c api.Cloud) api.Cloud {
	v := append(slices.Clone(c.V), behind, behind, behind)
	dots := append(slices.Clone(c.Dots), gap, gap, gap)
	return of(v[:len(c.V)], dots[:len(c.Dots)]...)
}

// kept expects a cloud that was given to be as it was, with what lies behind its lists.
func kept(t *testing.T, got, c api.Cloud) {
	t.Helper()
	v, dots := got.V[:len(c.V)+3], got.Dots[:len(c.Dots)+3]
	if !same(of(v[:len(c.V)], dots[:len(c.Dots)]...), c) {
		t.Fatalf("%v became %v", c, got)
	}
	if !slices.Equal(v[len(c.V):], []int{behind, behind, behind}) || !slices.Equal(dots[len(c.Dots):], []api.Dot{gap, gap, gap}) {
		t.Fatalf("behind %v: %v, %v", c, v, dots)
	}
}

// spoil changes all memory of a result, to the end of its spare capacity.
func spoil(c api.Cloud) {
	for i := range c.V[:cap(c.V)] {
		c.V[:cap(c.V)][i] = -99
	}
	for i := range c.Dots[:cap(c.Dots)] {
		c.Dots[:cap(c.Dots)][i] = dot(-99, -99)
	}
}

// result expects a cloud and an error.
func result(t *testing.T, what string, got api.Cloud, err api.Errno, want api.Cloud, wanted api.Errno) {
	t.Helper()
	if !same(got, want) || err != wanted {
		t.Fatalf("%s: %v, %v, not %v, %v", what, brief(got), err, brief(want), wanted)
	}
}

// brief is a cloud, without most of its dots if it has many.
func brief(c api.Cloud) api.Cloud {
	return of(c.V, c.Dots[:min(len(c.Dots), 20)]...)
}

// checkMake compares what is made of numbers and dots with the definition, twice, with the first result changed in between.
func checkMake(t *testing.T, v []int, dots []api.Dot) {
	t.Helper()
	c := of(v, dots...)
	want, wanted := made(v, dots)
	for range 2 {
		list := given(c)
		got, err := cloud.Make(list.V, list.Dots)
		result(t, "Make", got, err, want, wanted)
		if err == api.OK && cloud.Check(got) != api.OK {
			t.Fatalf("Make: %v is not in its form", got)
		}
		spoil(got)
		kept(t, list, c)
	}
}

// checkOne compares what is told of a cloud with the definitions, for some dots and regions.
func checkOne(t *testing.T, c api.Cloud, dots []api.Dot, regions []int) {
	t.Helper()
	list, err := given(c), wrong(c)
	if got := cloud.Check(list); got != err {
		t.Fatalf("Check(%v) = %v, not %v", brief(c), got, err)
	}
	count, s := 0, &set{}
	if err == api.OK {
		s = setOf(c.V, c.Dots)
		count = s.count()
	}
	if got := cloud.Count(list); got != count {
		t.Fatalf("Count(%v) = %d, not %d", brief(c), got, count)
	}
	for _, d := range dots {
		if got, want := cloud.Has(list, d), s.has(d); got != want {
			t.Fatalf("Has(%v, %v) = %v", brief(c), d, got)
		}
	}
	for _, r := range regions {
		got, err := cloud.Next(list, r)
		if want, wanted := next(c, r); got != want || err != wanted {
			t.Fatalf("Next(%v, %d) = %v, %v, not %v, %v", brief(c), r, got, err, want, wanted)
		}
	}
	kept(t, list, c)
}

// checkTwo compares what is told of two clouds with the definitions.
func checkTwo(t *testing.T, a, b api.Cloud) {
	t.Helper()
	want, wanted := joined(a, b)
	is, failed := within(a, b)
	x, y := given(a), given(b)
	for range 2 {
		got, err := cloud.Join(x, y)
		result(t, "Join", got, err, want, wanted)
		if got, err := cloud.Leq(x, y); got != is || err != failed {
			t.Fatalf("Leq(%v, %v) = %v, %v, not %v, %v", brief(a), brief(b), got, err, is, failed)
		}
		spoil(got)
		kept(t, x, a)
		kept(t, y, b)
	}
}

// universe are all dots of so many regions with so many numbers.
func universe(regions, numbers int) []api.Dot {
	var list []api.Dot
	for r := range regions {
		list = append(list, every(r+1, 1, 1, numbers)...)
	}
	return list
}

// subset are those of dots whose bits are in mask.
func subset(dots []api.Dot, mask int) []api.Dot {
	var list []api.Dot
	for i, d := range dots {
		if mask>>i&1 == 1 {
			list = append(list, d)
		}
	}
	return list
}

// subsets are the clouds of all sets of dots out of some, in the order of their masks.
func subsets(dots []api.Dot) []api.Cloud {
	var list []api.Cloud
	for mask := range 1 << len(dots) {
		list = append(list, setOf(nil, subset(dots, mask)).form())
	}
	return list
}

// lists are all lists of up to so many things out of some.
func lists[T any](most int, things ...T) [][]T {
	all := [][]T{nil}
	for from := 0; most > 0; most-- {
		end := len(all)
		for _, list := range all[from:end] {
			for _, x := range things {
				all = append(all, append(slices.Clone(list), x))
			}
		}
		from = end
	}
	return all
}
