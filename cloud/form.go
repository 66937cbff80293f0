package cloud

import (
	"slices"

	"entrepot/api"
	"entrepot/vector"
)

// checkBoth returns the error of Check for a, and then for b.
func checkBoth(a, b api.Cloud) api.Errno {
	if err := Check(a); err != api.OK {
		return err
	}
	return Check(b)
}

// inRange reports whether v has only numbers of regions, and dots only dots.
func inRange(v []int, dots []api.Dot) bool {
	return len(v) <= api.MaxRegions && !slices.ContainsFunc(v, noNumber) && !slices.ContainsFunc(dots, noDot)
}

func noNumber(n int) bool {
	return n < 0 || n > api.MaxCount
}

func noDot(d api.Dot) bool {
	return d.R < 1 || d.R > api.MaxRegions || d.N < 1 || d.N > api.MaxCount
}

// canonical reports whether a cloud, in range, has no zeros at the end of V, and its dots in their order, each behind a gap after V.
func canonical(c api.Cloud) bool {
	before := api.Dot{}
	for _, d := range c.Dots {
		if compare(before, d) >= 0 || d.N <= vector.Next(c.V, d.R).N {
			return false
		}
		before = d
	}
	return len(withoutZeros(c.V)) == len(c.V)
}

// withoutZeros returns v up to its last number that is not 0.
func withoutZeros(v []int) []int {
	for len(v) > 0 && v[len(v)-1] == 0 {
		v = v[:len(v)-1]
	}
	return v
}
