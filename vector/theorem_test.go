package vector_test

import (
	"math/big"
	"slices"
	"testing"

	"entrepot/api"
	"entrepot/vector"
)

// P14.4: of all short vectors the join is the least one that is at least both, the meet the greatest one that is at most both.
func TestBounds(t *testing.T) {
	all := lists(2, -1, 0, 1, 2)
	for _, v := range all {
		for _, w := range all {
			join, meet := vector.Join(v, w), vector.Meet(v, w)
			if !vector.Leq(v, join) || !vector.Leq(w, join) || !vector.Leq(meet, v) || !vector.Leq(meet, w) {
				t.Fatalf("%v and %v: %v, %v", v, w, join, meet)
			}
			for _, u := range all {
				if vector.Leq(v, u) && vector.Leq(w, u) && !vector.Leq(join, u) {
					t.Fatalf("%v is at least %v and %v, but not %v", u, v, w, join)
				}
				if vector.Leq(u, v) && vector.Leq(u, w) && !vector.Leq(u, meet) {
					t.Fatalf("%v is at most %v and %v, but not %v", u, v, w, meet)
				}
			}
		}
	}
}

// P14.4: which vectors are at most others is an order, with equal vectors where it holds both ways.
func TestOrderOfVectors(t *testing.T) {
	all := lists(3, -1, 0, 1, 2)
	for _, v := range all {
		if !vector.Leq(v, v) || !vector.Same(v, v) {
			t.Fatalf("%v is not itself", v)
		}
		for _, w := range all {
			same := vector.Leq(v, w) && vector.Leq(w, v)
			if vector.Same(v, w) != same || vector.Same(w, v) != same {
				t.Fatalf("%v, %v: the same is %v", v, w, !same)
			}
			if vector.Leq(v, w) != vector.Same(vector.Join(v, w), w) || vector.Leq(v, w) != vector.Same(vector.Meet(v, w), v) {
				t.Fatalf("%v, %v: not by their join and meet", v, w)
			}
		}
	}
}

// dots are all dots of the first regions and numbers, and of some that are none.
func dots() []api.Dot {
	var list []api.Dot
	for r := -1; r < 20; r++ {
		for n := -1; n < 6; n++ {
			list = append(list, dot(r, n))
		}
	}
	return list
}

// P14.4: the dots under a join are those under one of both, the dots under a meet those under both.
func TestDotsUnder(t *testing.T) {
	all := lists(3, -1, 0, 1, 3)
	all = append(all, row(18, -3), row(17, -12), slices.Repeat([]int{4, 0, 2}, 6))
	for _, v := range all {
		for _, w := range all {
			join, meet := vector.Join(v, w), vector.Meet(v, w)
			for _, d := range dots() {
				if vector.Has(join, d) != (vector.Has(v, d) || vector.Has(w, d)) {
					t.Fatalf("%v, %v: %v under their join is %v", v, w, d, vector.Has(join, d))
				}
				if vector.Has(meet, d) != (vector.Has(v, d) && vector.Has(w, d)) {
					t.Fatalf("%v, %v: %v under their meet is %v", v, w, d, vector.Has(meet, d))
				}
			}
		}
	}
}

// P14.4: Next is not under its vector, and With adds it, and nothing else, for each region that there is.
func TestNextIsAdded(t *testing.T) {
	all := append(lists(3, -1, 0, 1, 3), row(18, -14), row(16, -12), row(15, -12))
	for _, v := range all {
		for r := -1; r < 20; r++ {
			d := vector.Next(v, r)
			if vector.Has(v, d) {
				t.Fatalf("%v: the next dot %v is under it", v, d)
			}
			longer := vector.With(v, d)
			for _, e := range dots() {
				added := e == d && r >= 1 && r <= mostRegions
				if vector.Has(longer, e) != (vector.Has(v, e) || added) {
					t.Fatalf("%v with %v: %v is %v", v, d, e, vector.Has(longer, e))
				}
			}
		}
	}
}

// P14.4: a vector to which the next dot is added again and again has them one by one; With of a dot far ahead has all at once.
func TestStepByStep(t *testing.T) {
	for r := 1; r <= mostRegions; r++ {
		v := []int{2, 0, 1}
		n := vector.At(v, r)
		for k := n + 1; k < n+50; k++ {
			d := vector.Next(v, r)
			if d != dot(r, k) {
				t.Fatalf("%v: next of %d is %v", v, r, d)
			}
			if v = vector.With(v, d); !vector.Same(v, vector.With([]int{2, 0, 1}, d)) {
				t.Fatalf("%v after %v", v, d)
			}
		}
	}
}

// P14.5: of two different dots exactly one is before the other, whatever their vectors are; none is before itself.
func TestTotalOrder(t *testing.T) {
	vectors := append(lists(2, -1, 0, 1, 2), []int{heaviest - 1}, []int{heaviest}, []int{greatest, greatest})
	all := []api.Dot{dot(0, 0), dot(0, 1), dot(1, 0), dot(1, 1), dot(1, 2), dot(2, 1), dot(2, 2), dot(least, greatest), dot(greatest, least)}
	for _, a := range all {
		for _, b := range all {
			for _, deps := range vectors {
				for _, other := range vectors {
					there, back := vector.Less(a, deps, b, other), vector.Less(b, other, a, deps)
					if there && back || a != b && !there && !back {
						t.Fatalf("%v with %v, %v with %v: %v, %v", a, deps, b, other, there, back)
					}
				}
				if vector.Less(a, deps, a, deps) {
					t.Fatalf("%v with %v is before itself", a, deps)
				}
			}
		}
	}
}

// event is a dot with its vector.
type event struct {
	d    api.Dot
	deps []int
}

// P14.5: what is before something that is before a third one is before that, too.
func TestOrderIsTransitive(t *testing.T) {
	var events []event
	for _, d := range []api.Dot{dot(1, 1), dot(1, 2), dot(2, 1), dot(2, 3), dot(3, 1)} {
		for _, deps := range [][]int{nil, {1}, {0, 1}, {1, 1}, {2, -1}, {heaviest}, {greatest, 1}} {
			events = append(events, event{d, deps})
		}
	}
	for _, x := range events {
		for _, y := range events {
			for _, z := range events {
				if vector.Less(x.d, x.deps, y.d, y.deps) && vector.Less(y.d, y.deps, z.d, z.deps) && !vector.Less(x.d, x.deps, z.d, z.deps) {
					t.Fatalf("%v, %v, %v", x, y, z)
				}
			}
		}
	}
}

// P14.5: an event whose vector is at least another one's, and greater somewhere, comes after it, whatever their dots are, as long as the lesser weight is below the greatest one.
func TestCauseComesFirst(t *testing.T) {
	all := append(lists(3, -1, 0, 1, 2), []int{heaviest - 1}, []int{heaviest - 1, 1}, []int{heaviest - 1, greatest}, []int{heaviest}, []int{0, heaviest - 2})
	came := 0
	for _, v := range all {
		for _, w := range all {
			if !vector.Leq(v, w) || vector.Same(v, w) || sum(v).Cmp(big.NewInt(heaviest)) >= 0 {
				continue
			}
			came++
			for _, a := range []api.Dot{dot(1, 1), dot(2, 1), dot(greatest, greatest)} {
				for _, b := range []api.Dot{dot(1, 1), dot(2, 1), dot(least, least)} {
					if !vector.Less(a, v, b, w) || vector.Less(b, w, a, v) {
						t.Fatalf("%v with %v is not before %v with %v", a, v, b, w)
					}
				}
			}
		}
	}
	if came < 500 {
		t.Errorf("%d pairs", came)
	}
}
