package register

import (
	"cmp"
	"slices"

	"entrepot/api"
	"entrepot/cloud"
)

// dot is an api.Dot that can be compared.
type dot api.Dot

// compare orders dots by their regions, then by their numbers.
func (d dot) compare(e dot) int {
	return cmp.Or(cmp.Compare(d.R, e.R), cmp.Compare(d.N, e.N))
}

// compareDots orders dots as they are in a cloud.
func compareDots(a, b api.Dot) int {
	return dot(a).compare(dot(b))
}

// compareHeld orders what is held by its dots.
func compareHeld(a, b api.Held) int {
	return compareDots(a.Dot, b.Dot)
}

// checkBoth returns the error of Check for a, and then for b.
func checkBoth(a, b api.Register) api.Errno {
	if err := Check(a); err != api.OK {
		return err
	}
	return Check(b)
}

// ascending reports whether held is in the order of its dots, each of which is there once.
func ascending(held []api.Held) bool {
	dots := make([]dot, len(held))
	for i, h := range held {
		dots[i] = dot(h.Dot)
	}
	return slices.IsSortedFunc(dots, dot.compare) && len(slices.Compact(dots)) == len(held)
}

// allSeen reports whether a register has seen all dots that it holds.
func allSeen(r api.Register) bool {
	for _, h := range r.Held {
		if !has(r.Seen, h.Dot) {
			return false
		}
	}
	return true
}

// has reports whether d is in a cloud that is in canonical form. cloud.Has checks all of its cloud each time, so that it is given no Dots.
func has(c api.Cloud, d api.Dot) bool {
	_, is := slices.BinarySearchFunc(c.Dots, d, compareDots)
	return is || cloud.Has(api.Cloud{V: c.V}, d)
}

// holds reports whether d is one of the dots of held, which ascend.
func holds(held []api.Held, d api.Dot) bool {
	_, is := slices.BinarySearchFunc(held, api.Held{Dot: d}, compareHeld)
	return is
}
