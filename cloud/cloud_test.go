package cloud_test

import (
	"slices"
	"testing"

	"entrepot/api"
	"entrepot/cloud"
)

// P15.1: the examples, and each reason for which a cloud is not in its form.
func TestExamplesOfCheck(t *testing.T) {
	for _, x := range []struct {
		c    api.Cloud
		want api.Errno
	}{
		{of(nil), api.OK}, {of([]int{}), api.OK}, {of([]int{2}, dot(1, 4)), api.OK}, {of([]int{0, 0, 1}), api.OK},
		{of(nil, dot(1, 2)), api.OK}, {of(nil, dot(1, 2), dot(1, 3)), api.OK}, {of(nil, dot(16, 2)), api.OK}, {of([]int{0, 1}, dot(1, 2), dot(2, 3)), api.OK},
		{of([]int{lastNumber}), api.OK}, {of([]int{lastNumber - 2}, dot(1, lastNumber)), api.OK}, {of(nil, dot(1, lastNumber)), api.OK},
		{of([]int{0}), api.ErrArg}, {of([]int{0, 0}), api.ErrArg}, {of([]int{1, 0}), api.ErrArg}, {of([]int{0}, dot(1, 3)), api.ErrArg}, {of([]int{1, 0}, dot(2, 2)), api.ErrArg},
		{of(nil, dot(1, 1)), api.ErrArg}, {of([]int{2}, dot(1, 3)), api.ErrArg}, {of([]int{2}, dot(2, 1)), api.ErrArg}, {of(nil, dot(16, 1)), api.ErrArg},
		{of([]int{2}, dot(1, 2)), api.ErrArg}, {of([]int{2}, dot(1, 1)), api.ErrArg}, {of([]int{lastNumber}, dot(1, lastNumber)), api.ErrArg}, {of([]int{lastNumber - 1}, dot(1, lastNumber)), api.ErrArg},
		{of(nil, dot(1, 3), dot(1, 2)), api.ErrArg}, {of(nil, dot(1, 3), dot(1, 3)), api.ErrArg}, {of(nil, dot(2, 2), dot(1, 3)), api.ErrArg}, {of(nil, dot(2, 3), dot(1, 3)), api.ErrArg},
		{of([]int{1, 1, 0}), api.ErrArg}, {of(make([]int, mostRegions)), api.ErrArg},
		{of(nil, dot(17, 1)), api.ErrRange}, {of(nil, dot(17, 2)), api.ErrRange}, {of(nil, dot(0, 2)), api.ErrRange}, {of(nil, dot(-1, 2)), api.ErrRange},
		{of(nil, dot(1, 0)), api.ErrRange}, {of(nil, dot(1, -1)), api.ErrRange}, {of(nil, dot(1, lastNumber+1)), api.ErrRange}, {of(nil, dot(0, 0)), api.ErrRange},
		{of([]int{-1}), api.ErrRange}, {of([]int{lastNumber + 1}), api.ErrRange}, {of(make([]int, mostRegions+1)), api.ErrRange}, {of([]int{least, 1}), api.ErrRange},
		{of([]int{1, greatest}), api.ErrRange}, {of([]int{0, -1, 0}), api.ErrRange}, {of([]int{2}, dot(1, 4), dot(greatest, 2)), api.ErrRange},
	} {
		if got := cloud.Check(x.c); got != x.want {
			t.Errorf("Check(%v) = %v, not %v", x.c, got, x.want)
		}
	}
}

// P15.2: the examples, and dots that come out of order, often, or under the numbers.
func TestExamplesOfMake(t *testing.T) {
	for _, x := range []struct {
		v    []int
		dots []api.Dot
		want api.Cloud
		err  api.Errno
	}{
		{[]int{1, 0}, []api.Dot{dot(1, 2), dot(1, 4), dot(2, 2), dot(1, 4)}, of([]int{2}, dot(1, 4), dot(2, 2)), api.OK},
		{nil, []api.Dot{dot(3, 1)}, of([]int{0, 0, 1}), api.OK},
		{[]int{0, 0}, nil, of(nil), api.OK},
		{nil, nil, of(nil), api.OK},
		{[]int{1, 2, 0}, nil, of([]int{1, 2}), api.OK},
		{make([]int, mostRegions), nil, of(nil), api.OK},
		{nil, dotsOf(1, 3, 2, 1), of([]int{3}), api.OK},
		{nil, dotsOf(1, 1, 2, 3), of([]int{3}), api.OK},
		{nil, dotsOf(1, 2, 3), of(nil, dot(1, 2), dot(1, 3)), api.OK},
		{[]int{5}, dotsOf(1, 7, 3, 5, 6, 1), of([]int{7}), api.OK},
		{[]int{5}, dotsOf(1, 8, 3, 5, 6, 1, 8), of([]int{6}, dot(1, 8)), api.OK},
		{nil, dotsOf(16, 1), of([]int{15: 1}), api.OK},
		{[]int{lastNumber}, dotsOf(1, lastNumber, 1), of([]int{lastNumber}), api.OK},
		{[]int{lastNumber - 1}, dotsOf(1, lastNumber), of([]int{lastNumber}), api.OK},
		{[]int{lastNumber - 2}, dotsOf(1, lastNumber), of([]int{lastNumber - 2}, dot(1, lastNumber)), api.OK},
		{make([]int, mostRegions+1), nil, of(nil), api.ErrRange},
		{[]int{-1}, nil, of(nil), api.ErrRange},
		{[]int{1, lastNumber + 1}, nil, of(nil), api.ErrRange},
		{[]int{1}, dotsOf(1, 0), of(nil), api.ErrRange},
		{[]int{1}, dotsOf(1, lastNumber+1), of(nil), api.ErrRange},
		{[]int{1}, dotsOf(17, 1), of(nil), api.ErrRange},
		{[]int{1}, dotsOf(0, 1), of(nil), api.ErrRange},
		{[]int{1}, append(dotsOf(1, 2, 3, 4), dot(-1, 1)), of(nil), api.ErrRange},
	} {
		got, err := cloud.Make(x.v, x.dots)
		result(t, "Make", got, err, x.want, x.err)
		checkMake(t, x.v, x.dots)
	}
}

// P15.3: the examples of Has.
func TestExamplesOfHas(t *testing.T) {
	c := of([]int{2}, dot(1, 4))
	for _, x := range []struct {
		c    api.Cloud
		d    api.Dot
		want bool
	}{
		{c, dot(1, 2), true}, {c, dot(1, 3), false}, {c, dot(1, 1), true}, {c, dot(1, 4), true}, {c, dot(1, 5), false},
		{c, dot(1, 0), false}, {c, dot(1, -1), false}, {c, dot(0, 1), false}, {c, dot(2, 1), false}, {c, dot(2, 4), false}, {c, dot(17, 1), false}, {c, dot(greatest, least), false},
		{of(nil), dot(1, 1), false}, {of(nil), dot(0, 0), false}, {of([]int{0}), dot(1, 1), false},
		{of([]int{1, 0}), dot(1, 1), false}, {of(nil, dot(1, 1)), dot(1, 1), false}, {of([]int{2}, dot(1, 5), dot(1, 4)), dot(1, 1), false}, {of([]int{2}, dot(17, 1)), dot(1, 1), false},
		{of(make([]int, 17)), dot(1, 1), false}, {of([]int{2}, every(1, 4, 2, mostDots+1)...), dot(1, 1), false}, {of([]int{2}, every(1, 4, 2, mostDots)...), dot(1, 1), true},
	} {
		if got := cloud.Has(x.c, x.d); got != x.want {
			t.Errorf("Has(%v, %v) = %v", brief(x.c), x.d, got)
		}
	}
}

// P15.3: the examples of two clouds.
func TestExamplesOfTwo(t *testing.T) {
	join, err := cloud.Join(of([]int{2}, dot(1, 4)), of([]int{0, 1}, dot(1, 3)))
	result(t, "Join", join, err, of([]int{4, 1}), api.OK)
	for _, x := range []struct {
		a, b api.Cloud
		want bool
	}{
		{of([]int{1}, dot(1, 3)), of([]int{3}), true}, {of([]int{3}), of([]int{1}, dot(1, 3)), false},
		{of(nil), of(nil), true}, {of(nil), of([]int{1}), true}, {of([]int{1}), of(nil), false}, {of(nil, dot(1, 2)), of([]int{1}), false},
		{of(nil, dot(1, 2)), of(nil, dot(1, 2), dot(1, 3)), true}, {of(nil, dot(1, 2), dot(1, 3)), of(nil, dot(1, 2)), false}, {of(nil, dot(1, 2)), of([]int{0, 5}), false},
		{of([]int{1}), of(nil, dot(1, 2)), false}, {of([]int{1, 1}), of([]int{1}, dot(2, 2)), false}, {of(nil, dot(2, 2)), of(nil, dot(3, 2)), false},
		{of([]int{1, 1}, dot(1, 3)), of([]int{1, 4}, dot(1, 3), dot(1, 9)), true}, {of([]int{1}, dot(1, 4), dot(2, 2)), of([]int{1, 2}, dot(1, 3)), false},
	} {
		got, err := cloud.Leq(x.a, x.b)
		if got != x.want || err != api.OK {
			t.Errorf("Leq(%v, %v) = %v, %v", x.a, x.b, got, err)
		}
		checkTwo(t, x.a, x.b)
	}
}

// P15.4: the examples, and where a region ends.
func TestExamplesOfNext(t *testing.T) {
	c := of([]int{2}, dot(1, 4))
	for _, x := range []struct {
		c    api.Cloud
		r    int
		want api.Dot
		err  api.Errno
	}{
		{c, 1, dot(1, 5), api.OK}, {c, 2, dot(2, 1), api.OK}, {c, 16, dot(16, 1), api.OK}, {of(nil), 1, dot(1, 1), api.OK}, {of([]int{7}), 1, dot(1, 8), api.OK},
		{of(nil), 17, dot(0, 0), api.ErrRange}, {c, 0, dot(0, 0), api.ErrRange}, {c, -1, dot(0, 0), api.ErrRange}, {c, least, dot(0, 0), api.ErrRange}, {c, greatest, dot(0, 0), api.ErrRange},
		{of([]int{lastNumber}), 1, dot(0, 0), api.ErrFull}, {of([]int{lastNumber}), 2, dot(2, 1), api.OK}, {of([]int{lastNumber - 1}), 1, dot(1, lastNumber), api.OK},
		{of(nil, dot(2, lastNumber)), 2, dot(0, 0), api.ErrFull}, {of(nil, dot(2, lastNumber)), 1, dot(1, 1), api.OK}, {of(nil, dot(2, lastNumber-1)), 2, dot(2, lastNumber), api.OK},
		{of([]int{3, 1, 3}, dot(1, 8), dot(2, 5), dot(2, 9), dot(3, 7)), 2, dot(2, 10), api.OK},
		{of([]int{0}), 1, dot(0, 0), api.ErrArg}, {of([]int{0}), 17, dot(0, 0), api.ErrArg}, {of(nil, dot(17, 1)), 17, dot(0, 0), api.ErrRange},
		{of(nil, every(1, 2, 2, mostDots+1)...), 17, dot(0, 0), api.ErrFull}, {of(nil, dot(1, lastNumber), dot(1, lastNumber)), 1, dot(0, 0), api.ErrArg},
	} {
		if got, err := cloud.Next(x.c, x.r); got != x.want || err != x.err {
			t.Errorf("Next(%v, %d) = %v, %v", brief(x.c), x.r, got, err)
		}
	}
}

// P15.4: the examples of Count, and the greatest set.
func TestExamplesOfCount(t *testing.T) {
	all := slices.Repeat([]int{lastNumber}, mostRegions)
	for _, x := range []struct {
		c    api.Cloud
		want int
	}{
		{of([]int{2}, dot(1, 4)), 3}, {of(nil), 0}, {of([]int{1, 0, 4}, dot(2, 2)), 6}, {of(nil, dot(1, 2)), 1}, {of(all), mostRegions * lastNumber},
		{of(all[1:], every(16, 2, 2, mostDots)...), 15*lastNumber + mostDots}, {of(nil, every(1, 2, 2, mostDots+1)...), 0},
		{of([]int{2, 0}), 0}, {of([]int{2}, dot(1, 3)), 0}, {of([]int{2}, dot(1, 5), dot(1, 4)), 0}, {of([]int{2, -1}), 0}, {of([]int{lastNumber + 1}), 0}, {of(append(all, 1)), 0},
	} {
		if got := cloud.Count(x.c); got != x.want {
			t.Errorf("Count(%v) = %d, not %d", brief(x.c), got, x.want)
		}
	}
}

// P15.1 to P15.4: all short clouds, in their form or not.
func TestShortClouds(t *testing.T) {
	asked := append(universe(3, 7), dot(0, 0), dot(0, 1), dot(1, 0), dot(17, 1), dot(-1, -1))
	regions := []int{-1, 0, 1, 2, 3, 16, 17}
	for _, v := range lists(3, 0, 1, 2, 4) {
		for _, dots := range lists(3, dot(1, 1), dot(1, 2), dot(1, 3), dot(1, 5), dot(2, 1), dot(2, 2), dot(2, 4), dot(3, 2)) {
			checkOne(t, of(v, dots...), asked, regions)
			checkMake(t, v, dots)
		}
	}
}

// P15.1 to P15.4: what is in a cloud is what is in its set, dot by dot.
func TestAllSets(t *testing.T) {
	for _, dots := range [][]api.Dot{universe(1, 10), universe(2, 5), universe(5, 2), append(dotsOf(1, 1, 2, 3, lastNumber-1, lastNumber), dotsOf(16, 1, 2, 3, lastNumber-1, lastNumber)...)} {
		for mask := range 1 << len(dots) {
			in := subset(dots, mask)
			c, err := cloud.Make(nil, in)
			if err != api.OK || cloud.Check(c) != api.OK || cloud.Count(c) != len(in) {
				t.Fatalf("Make of %v: %v, %v; its form %v, its number %d", in, c, err, cloud.Check(c), cloud.Count(c))
			}
			for _, d := range dots {
				if cloud.Has(c, d) != slices.Contains(in, d) {
					t.Fatalf("%v of %v has %v: %v", c, in, d, cloud.Has(c, d))
				}
			}
			for r := 1; r <= mostRegions; r++ {
				checkNext(t, c, r, in)
			}
		}
	}
}

// checkNext expects the dot after the greatest one of a region among the dots of a cloud.
func checkNext(t *testing.T, c api.Cloud, r int, in []api.Dot) {
	t.Helper()
	want, wanted := dot(r, 1), api.OK
	for _, d := range in {
		if d.R == r && d.N >= want.N {
			want.N = d.N + 1
		}
	}
	if want.N > lastNumber {
		want, wanted = api.Dot{}, api.ErrFull
	}
	if got, err := cloud.Next(c, r); got != want || err != wanted {
		t.Fatalf("Next(%v, %d) = %v, %v, not %v, %v", c, r, got, err, want, wanted)
	}
}

// P15.3: each two sets of a few dots: what both have together, and whether one is within the other.
func TestPairsOfSets(t *testing.T) {
	for _, dots := range [][]api.Dot{universe(1, 8), universe(2, 4), universe(4, 2), append(dotsOf(2, 1, 2, 3, 5), dotsOf(16, 1, lastNumber-1, lastNumber)...)} {
		all := subsets(dots)
		for i, a := range all {
			for k, b := range all {
				join, err := cloud.Join(a, b)
				if err != api.OK || !same(join, all[i|k]) {
					t.Fatalf("Join(%v, %v) = %v, %v", a, b, join, err)
				}
				if is, err := cloud.Leq(a, b); is != (i&k == i) || err != api.OK {
					t.Fatalf("Leq(%v, %v) = %v, %v", a, b, is, err)
				}
			}
		}
	}
}

// P15.3: short clouds, in their form or not, in pairs: the first one's error counts first.
func TestShortPairs(t *testing.T) {
	var all []api.Cloud
	for _, v := range lists(2, -1, 0, 1, 2) {
		for _, dots := range lists(2, dot(1, 1), dot(1, 2), dot(1, 3), dot(2, 2), dot(17, 2)) {
			all = append(all, of(v, dots...))
		}
	}
	for _, a := range all {
		for _, b := range all {
			checkTwo(t, a, b)
		}
	}
}

// P15.2: the same dots in each order, and with each one given again.
func TestOrdersOfDots(t *testing.T) {
	dots := []api.Dot{dot(1, 2), dot(1, 3), dot(1, 5), dot(2, 1), dot(2, 2), dot(3, 4)}
	for _, order := range orders(dots) {
		for _, v := range [][]int{nil, {1}, {1, 0}, {4}, {0, 0, 3}, {5, 5, 5}} {
			want, _ := made(v, dots)
			got, err := cloud.Make(v, order)
			result(t, "Make", got, err, want, api.OK)
			for _, d := range dots {
				got, err := cloud.Make(v, append(slices.Clone(order), d))
				result(t, "Make", got, err, want, api.OK)
			}
		}
	}
}

// orders are all orders of dots.
func orders(dots []api.Dot) [][]api.Dot {
	if len(dots) == 0 {
		return [][]api.Dot{nil}
	}
	var all [][]api.Dot
	for i, d := range dots {
		rest := slices.Delete(slices.Clone(dots), i, i+1)
		for _, order := range orders(rest) {
			all = append(all, append(order, d))
		}
	}
	return all
}
