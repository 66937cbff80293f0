package orset

import (
	"cmp"
	"slices"

	"entrepot/api"
	"entrepot/cloud"
)

// compare orders dots by their regions, then by their numbers.
func compare(a, b api.Dot) int {
	return cmp.Or(cmp.Compare(a.R, b.R), cmp.Compare(a.N, b.N))
}

// contains reports whether d is one of dots, which ascend.
func contains(dots []api.Dot, d api.Dot) bool {
	_, is := slices.BinarySearchFunc(dots, d, compare)
	return is
}

// ascending reports whether dots are in their order, each once.
func ascending(dots []api.Dot) bool {
	for i, d := range dots {
		if i > 0 && compare(dots[i-1], d) >= 0 {
			return false
		}
	}
	return true
}

// listed reports whether dots ascend, and are all in a cloud that is in canonical form.
func listed(dots []api.Dot, seen api.Cloud) bool {
	return ascending(dots) && !slices.ContainsFunc(dots, unseen(seen))
}

// dotsOf returns the dots of what is held.
func dotsOf(held []api.Held) []api.Dot {
	dots := make([]api.Dot, len(held))
	for i, h := range held {
		dots[i] = h.Dot
	}
	return dots
}

// known returns the dots of New and of Kept in their order: one that is in both is there twice.
func known(c api.Change) []api.Dot {
	dots := slices.Concat(dotsOf(c.New), c.Kept)
	slices.SortFunc(dots, compare)
	return dots
}

// checkChange returns why a change is not in canonical form.
func checkChange(c api.Change) api.Errno {
	if err := cloud.Check(c.Seen); err != api.OK {
		return err
	}
	if !listed(dotsOf(c.New), c.Seen) || !listed(c.Kept, c.Seen) || !ascending(known(c)) {
		return api.ErrArg
	}
	return api.OK
}

// copied returns a cloud in memory of its own.
func copied(c api.Cloud) api.Cloud {
	return api.Cloud{V: slices.Clone(c.V), Dots: slices.Clone(c.Dots)}
}
