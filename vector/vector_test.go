package vector_test

import (
	"slices"
	"testing"

	"entrepot/api"
	"entrepot/vector"
)

// P14.1: the examples, and vectors that are empty.
func TestExamplesOfNumbers(t *testing.T) {
	for _, x := range []struct {
		v       []int
		r, want int
	}{
		{[]int{1, 2}, 1, 1}, {[]int{1, 2}, 2, 2}, {[]int{1, 2}, 3, 0}, {[]int{1, 2}, 0, 0}, {[]int{1, 2}, -1, 0},
		{[]int{-5}, 1, 0}, {nil, 1, 0}, {nil, 0, 0}, {[]int{}, 1, 0}, {[]int{least, greatest}, 1, 0}, {[]int{least, greatest}, 2, greatest},
		{[]int{1, 2}, least, 0}, {[]int{1, 2}, greatest, 0},
	} {
		if got := vector.At(x.v, x.r); got != x.want {
			t.Errorf("At(%v, %d) = %d, not %d", x.v, x.r, got, x.want)
		}
	}
	for _, x := range []struct {
		v    []int
		d    api.Dot
		want bool
	}{
		{[]int{1, 2}, dot(2, 1), true}, {[]int{1, 2}, dot(2, 2), true}, {[]int{1, 2}, dot(2, 3), false}, {[]int{1, 2}, dot(2, 0), false},
		{[]int{1, 2}, dot(2, -1), false}, {[]int{1, 2}, dot(0, 1), false}, {[]int{1, 2}, dot(0, 0), false}, {[]int{1, 2}, dot(-1, 1), false},
		{[]int{1, 2}, dot(3, 1), false}, {[]int{1, 2}, dot(3, 0), false}, {[]int{-5}, dot(1, -5), false}, {[]int{-5}, dot(1, 0), false}, {nil, dot(1, 1), false},
		{[]int{1, greatest}, dot(2, greatest), true}, {[]int{1, greatest - 1}, dot(2, greatest), false}, {[]int{1}, dot(least, least), false},
	} {
		if got := vector.Has(x.v, x.d); got != x.want {
			t.Errorf("Has(%v, %v) = %v, not %v", x.v, x.d, got, x.want)
		}
	}
}

// P14.1: the examples of two vectors, of which one may be longer by numbers that count as 0.
func TestExamplesOfTwo(t *testing.T) {
	for _, x := range []struct {
		v, w      []int
		leq, same bool
	}{
		{[]int{1, 2}, []int{1, 2, 0}, true, true},
		{[]int{1, 2, 0}, []int{1, 2}, true, true},
		{[]int{1, 2, -3}, []int{1, 2, 0, -1}, true, true},
		{nil, nil, true, true},
		{nil, []int{}, true, true},
		{nil, []int{0, -1}, true, true},
		{[]int{0, -1}, nil, true, true},
		{[]int{least}, []int{-1}, true, true},
		{[]int{-1}, []int{least}, true, true},
		{[]int{1, 2}, []int{2, 1}, false, false},
		{[]int{2, 1}, []int{1, 2}, false, false},
		{[]int{1, 2}, []int{1, 3}, true, false},
		{[]int{1, 3}, []int{1, 2}, false, false},
		{nil, []int{0, 1}, true, false},
		{[]int{0, 1}, nil, false, false},
		{[]int{0, 1}, []int{5}, false, false},
		{[]int{greatest}, []int{greatest - 1}, false, false},
		{[]int{heaviest}, []int{heaviest + 1}, true, false},
	} {
		if got := vector.Leq(x.v, x.w); got != x.leq {
			t.Errorf("Leq(%v, %v) = %v", x.v, x.w, got)
		}
		if got := vector.Same(x.v, x.w); got != x.same {
			t.Errorf("Same(%v, %v) = %v", x.v, x.w, got)
		}
	}
}

// P14.2: the examples.
func TestExamplesOfLists(t *testing.T) {
	v, w := []int{1, 2}, []int{2, 1, 4}
	for i, x := range []struct{ got, want []int }{
		{vector.Join(v, w), []int{2, 2, 4}},
		{vector.Join(w, v), []int{2, 2, 4}},
		{vector.Meet(v, w), []int{1, 1, 0}},
		{vector.Meet(w, v), []int{1, 1, 0}},
		{vector.Join(nil, nil), nil},
		{vector.Meet(nil, nil), nil},
		{vector.Join(nil, []int{-1, 0, 3}), []int{0, 0, 3}},
		{vector.Meet([]int{-1, 0, 3}, nil), []int{0, 0, 0}},
		{vector.Join([]int{-1, least}, []int{-2}), []int{0, 0}},
		{vector.Meet([]int{-1, 5}, []int{4, -2}), []int{0, 0}},
		{vector.With([]int{1}, dot(3, 2)), []int{1, 0, 2}},
		{vector.With([]int{1, 5}, dot(2, 3)), []int{1, 5}},
		{vector.With([]int{1, 5}, dot(2, 5)), []int{1, 5}},
		{vector.With([]int{1, 5}, dot(2, 6)), []int{1, 6}},
		{vector.With([]int{1, 5, 7}, dot(1, 9)), []int{9, 5, 7}},
		{vector.With([]int{1}, dot(17, 1)), []int{1}},
		{vector.With([]int{1}, dot(3, 0)), []int{1}},
		{vector.With([]int{1}, dot(3, -1)), []int{1}},
		{vector.With([]int{1}, dot(0, 1)), []int{1}},
		{vector.With([]int{1}, dot(-1, 1)), []int{1}},
		{vector.With([]int{-1}, dot(1, 0)), []int{0}},
		{vector.With([]int{-5, 3}, dot(1, -2)), []int{0, 3}},
		{vector.With([]int{-5, 3, -1}, dot(2, 4)), []int{0, 4, 0}},
		{vector.With(nil, dot(2, 7)), []int{0, 7}},
		{vector.With(nil, dot(0, 0)), nil},
		{vector.With([]int{1}, dot(1, greatest)), []int{greatest}},
	} {
		if !slices.Equal(x.got, x.want) {
			t.Errorf("%d: %v, not %v", i, x.got, x.want)
		}
	}
}

// P14.2: the examples of Next, and where numbers and regions end.
func TestExamplesOfNext(t *testing.T) {
	for _, x := range []struct {
		v    []int
		r    int
		want api.Dot
	}{
		{[]int{1, 2}, 1, dot(1, 2)}, {[]int{1, 2}, 2, dot(2, 3)}, {[]int{1, 2}, 3, dot(3, 1)}, {[]int{1}, 0, dot(0, 0)}, {[]int{1}, -1, dot(0, 0)},
		{nil, 1, dot(1, 1)}, {nil, 17, dot(17, 1)}, {[]int{-5}, 1, dot(1, 1)}, {nil, least, dot(0, 0)}, {nil, greatest, dot(greatest, 1)},
		{[]int{heaviest - 2}, 1, dot(1, heaviest-1)}, {[]int{heaviest - 1}, 1, dot(1, heaviest)}, {[]int{heaviest}, 1, dot(0, 0)},
		{[]int{heaviest + 1}, 1, dot(0, 0)}, {[]int{greatest}, 1, dot(0, 0)}, {[]int{greatest, 1}, 2, dot(2, 2)},
	} {
		if got := vector.Next(x.v, x.r); got != x.want {
			t.Errorf("Next(%v, %d) = %v, not %v", x.v, x.r, got, x.want)
		}
	}
}

// P14.3: the examples of Weight, and sums about the greatest one.
func TestExamplesOfWeight(t *testing.T) {
	for _, x := range []struct {
		v    []int
		want int
	}{
		{nil, 0}, {[]int{1, 2, -7}, 3}, {[]int{-7}, 0}, {[]int{least, 5, least}, 5}, {[]int{heaviest, 1}, heaviest},
		{[]int{heaviest}, heaviest}, {[]int{heaviest - 1}, heaviest - 1}, {[]int{heaviest - 1, 1}, heaviest}, {[]int{heaviest - 2, 1}, heaviest - 1},
		{[]int{1, heaviest}, heaviest}, {[]int{heaviest + 1}, heaviest}, {[]int{greatest}, heaviest}, {[]int{greatest, greatest}, heaviest},
		{[]int{greatest, greatest, 2}, heaviest}, {[]int{heaviest, heaviest}, heaviest}, {[]int{heaviest, heaviest, heaviest, heaviest}, heaviest},
		{[]int{1, greatest, -1}, heaviest}, {[]int{heaviest / 2, heaviest / 2}, heaviest}, {[]int{heaviest / 2, heaviest/2 - 1}, heaviest - 1},
		{[]int{greatest, least}, heaviest},
	} {
		if got := vector.Weight(x.v); got != x.want {
			t.Errorf("Weight(%v) = %d, not %d", x.v, got, x.want)
		}
	}
}

// P14.3: the examples of Less: the weights count first, then the regions, then the numbers.
func TestExamplesOfLess(t *testing.T) {
	for _, x := range []struct {
		a     api.Dot
		deps  []int
		b     api.Dot
		other []int
		want  bool
	}{
		{dot(1, 2), []int{1}, dot(2, 1), []int{0, 0}, false},
		{dot(2, 1), nil, dot(1, 2), []int{1}, true},
		{dot(1, 1), nil, dot(2, 1), nil, true},
		{dot(2, 1), nil, dot(1, 1), nil, false},
		{dot(1, 9), nil, dot(2, 1), nil, true},
		{dot(2, 1), nil, dot(1, 9), nil, false},
		{dot(1, 1), nil, dot(1, 2), nil, true},
		{dot(1, 2), nil, dot(1, 1), nil, false},
		{dot(1, 1), nil, dot(1, 1), nil, false},
		{dot(1, 1), []int{1}, dot(1, 1), []int{0, 1}, false},
		{dot(1, 1), []int{1}, dot(1, 1), []int{2}, true},
		{dot(1, 1), []int{2}, dot(1, 1), []int{1}, false},
		{dot(9, 9), []int{1, -5}, dot(1, 1), []int{0, 2}, true},
		{dot(1, 1), []int{3, 0}, dot(2, 1), []int{1, 2}, true},
		{dot(2, 1), []int{3, 0}, dot(1, 1), []int{1, 2}, false},
		{dot(0, 0), nil, dot(-1, 5), nil, false},
		{dot(least, greatest), nil, dot(greatest, least), nil, true},
		{dot(1, least), nil, dot(1, greatest), nil, true},
		{dot(2, 1), []int{heaviest - 1}, dot(1, 1), []int{heaviest}, true},
		{dot(2, 1), []int{heaviest}, dot(1, 1), []int{heaviest, 1}, false},
		{dot(1, 1), []int{greatest}, dot(2, 1), []int{heaviest}, true},
		{dot(1, 1), []int{greatest, greatest}, dot(2, 1), []int{1}, false},
	} {
		if got := vector.Less(x.a, x.deps, x.b, x.other); got != x.want {
			t.Errorf("Less(%v, %v, %v, %v) = %v", x.a, x.deps, x.b, x.other, got)
		}
	}
}

// P14.1 to P14.3: all short lists, beside the definitions of the chapter.
func TestShortLists(t *testing.T) {
	for _, v := range lists(4, -2, 0, 1, 2) {
		for r := -2; r < 7; r++ {
			for n := -3; n < 5; n++ {
				checkOne(t, v, r, dot(r, n))
			}
		}
	}
	short := lists(3, -1, 0, 1, 3)
	for _, v := range short {
		for _, w := range short {
			checkTwo(t, v, w)
		}
	}
}

// P14.1 to P14.3: numbers, regions and dots about their ends.
func TestEnds(t *testing.T) {
	numbers := []int{least, least + 1, -1, 0, 1, heaviest - 1, heaviest, heaviest + 1, greatest - 1, greatest}
	all := lists(2, numbers...)
	for _, v := range all {
		for _, r := range append(numbers, 2, 3, 15, 16, 17, 18) {
			for _, n := range numbers {
				checkOne(t, v, r, dot(r, n))
			}
		}
		for _, w := range all {
			checkTwo(t, v, w)
			checkOrder(t, dot(1, 2), v, dot(2, 1), w)
		}
	}
}

// P14.1, P14.2: every length of one list and of another, also beyond the number of regions.
func TestLengths(t *testing.T) {
	for length := range 40 {
		for other := range 40 {
			checkTwo(t, row(length, 1), row(other, 1))
			checkTwo(t, row(length, 1), row(other, 2))
			checkTwo(t, row(length, -8), row(other, -9))
			checkTwo(t, row(length, 0), slices.Repeat([]int{9}, other))
		}
		for r := -1; r < 45; r++ {
			for n := -2; n < 45; n++ {
				checkOne(t, row(length, 1), r, dot(r, n))
				checkOne(t, row(length, -4), r, dot(r, n))
			}
		}
	}
}

// P14.1, P14.2: two lists that differ at one place alone, at each place.
func TestOnePlace(t *testing.T) {
	for length := 1; length < 20; length++ {
		for i := range length {
			for _, n := range []int{-5, 0, 3, 4, 5, 6, greatest} {
				v, w := slices.Repeat([]int{5}, length), slices.Repeat([]int{5}, length)
				v[i] = n
				checkTwo(t, v, w)
				checkTwo(t, w, v)
				clear(w)
				checkTwo(t, v, w)
			}
		}
	}
}

// P14.2: With has as many numbers as it needs, up to the last region.
func TestWithLengths(t *testing.T) {
	for length := range 20 {
		for r := 1; r < 20; r++ {
			want := length
			if r <= mostRegions {
				want = max(length, r)
			}
			if got := vector.With(make([]int, length), dot(r, 1)); len(got) != want {
				t.Errorf("With of %d numbers and the region %d has %d", length, r, len(got))
			}
			if got := vector.With(make([]int, length), dot(r, 0)); len(got) != length {
				t.Errorf("With of %d numbers and no dot of the region %d has %d", length, r, len(got))
			}
		}
	}
}

// P14.1 to P14.3: one list that is given twice, and lists of which one is a part of the other, are lists like others.
func TestSharedLists(t *testing.T) {
	for _, whole := range lists(4, -1, 0, 2) {
		list := given(whole)
		for from := range len(whole) + 1 {
			v, part := whole, whole[from:]
			if vector.Leq(list, list[from:]) != atMost(v, part) || vector.Same(list[from:], list) != equal(part, v) {
				t.Fatalf("%v and its part from %d on", whole, from)
			}
			join, meet := vector.Join(list, list[from:]), vector.Meet(list[from:], list)
			result(t, "Join", join, joined(v, part), list)
			result(t, "Meet", meet, met(v, part), list)
		}
		kept(t, list, whole)
	}
}

// P14.3: the order of all dots about the ends of regions and numbers, with vectors of several weights.
func TestOrders(t *testing.T) {
	ends := []int{least, -1, 0, 1, 2, greatest}
	vectors := [][]int{nil, {0, 0}, {-1}, {1}, {0, 1}, {-9, 1}, {2}, {1, 1}, {heaviest - 1}, {heaviest}, {greatest, 1}}
	var dots []api.Dot
	for _, r := range ends {
		for _, n := range ends {
			dots = append(dots, dot(r, n))
		}
	}
	for _, a := range dots {
		for _, b := range dots {
			for _, deps := range vectors {
				for _, other := range vectors {
					checkOrder(t, a, deps, b, other)
				}
			}
		}
	}
}
