package cloud_test

import (
	"testing"

	"entrepot/api"
	"entrepot/cloud"
)

// join is the join of clouds, which must be there.
func join(t *testing.T, a, b api.Cloud) api.Cloud {
	t.Helper()
	c, err := cloud.Join(a, b)
	if err != api.OK {
		t.Fatalf("Join(%v, %v): %v", brief(a), brief(b), err)
	}
	return c
}

// leq is whether a cloud is within another one, which must be told.
func leq(t *testing.T, a, b api.Cloud) bool {
	t.Helper()
	is, err := cloud.Leq(a, b)
	if err != api.OK {
		t.Fatalf("Leq(%v, %v): %v", brief(a), brief(b), err)
	}
	return is
}

// P15.5: joins of all small sets do not depend on any order, and change nothing when they come again.
func TestJoinsInAnyOrder(t *testing.T) {
	all := subsets(universe(2, 3))
	for _, a := range all {
		if !same(join(t, a, a), a) {
			t.Fatalf("%v joined with itself", a)
		}
		for _, b := range all {
			both := join(t, a, b)
			if !same(both, join(t, b, a)) || !same(join(t, both, a), both) || !same(join(t, b, both), both) {
				t.Fatalf("%v and %v: %v", a, b, both)
			}
			for _, c := range all {
				if !same(join(t, both, c), join(t, a, join(t, b, c))) {
					t.Fatalf("%v, %v, %v", a, b, c)
				}
			}
		}
	}
}

// P15.5: a cloud is Leq another one exactly if their join is that one, so that Leq is an order.
func TestLeqByJoins(t *testing.T) {
	for _, dots := range [][]api.Dot{universe(1, 8), universe(2, 4), universe(3, 2)} {
		all := subsets(dots)
		for _, a := range all {
			for _, b := range all {
				if leq(t, a, b) != same(join(t, a, b), b) {
					t.Fatalf("%v and %v", a, b)
				}
				if leq(t, a, b) && leq(t, b, a) != same(a, b) {
					t.Fatalf("%v and %v are within each other", a, b)
				}
			}
		}
	}
}

// P15.5: the join is the least cloud within which both are.
func TestLeastOfBoth(t *testing.T) {
	all := subsets(universe(2, 3))
	for _, a := range all {
		for _, b := range all {
			both := join(t, a, b)
			if !leq(t, a, both) || !leq(t, b, both) {
				t.Fatalf("%v and %v: %v", a, b, both)
			}
			for _, c := range all {
				if (leq(t, a, c) && leq(t, b, c)) != leq(t, both, c) {
					t.Fatalf("%v, %v and %v", a, b, c)
				}
			}
		}
	}
}

// P15.5: Next is not in its set, and a cloud made with it has it, and is otherwise the same.
func TestNextIsNew(t *testing.T) {
	dots := append(universe(2, 4), dot(16, lastNumber), dot(16, 1))
	for _, c := range subsets(dots) {
		for r := 1; r <= mostRegions; r++ {
			d, err := cloud.Next(c, r)
			if err != api.OK {
				if r != 16 || err != api.ErrFull || !cloud.Has(c, dot(16, lastNumber)) {
					t.Fatalf("Next(%v, %d): %v", c, r, err)
				}
				continue
			}
			if cloud.Has(c, d) {
				t.Fatalf("%v has its next dot %v", c, d)
			}
			more, err := cloud.Make(c.V, append(dotsOf(d.R, d.N), c.Dots...))
			if err != api.OK || !cloud.Has(more, d) || cloud.Count(more) != cloud.Count(c)+1 || !leq(t, c, more) {
				t.Fatalf("%v with %v: %v, %v", c, d, more, err)
			}
		}
	}
}

// P15.5: a region that asks for its next dot again and again gets all of its dots, one after the other.
func TestStepByStep(t *testing.T) {
	for _, from := range []api.Cloud{of(nil), of([]int{2, 7}, dot(1, 5), dot(3, 2)), of([]int{1, 1, 1}, dot(1, 3), dot(1, 4), dot(3, 4))} {
		for r := 1; r <= 4; r++ {
			c := from
			last := setOf(c.V, c.Dots).last(r)
			for k := 1; k < 60; k++ {
				d, err := cloud.Next(c, r)
				if d != dot(r, last+k) || err != api.OK {
					t.Fatalf("%v: next of %d is %v, %v", c, r, d, err)
				}
				c = join(t, setOf(nil, dotsOf(d.R, d.N)).form(), c)
			}
			if cloud.Count(c) != cloud.Count(from)+59 {
				t.Fatalf("%v has %d dots", c, cloud.Count(c))
			}
		}
	}
}
