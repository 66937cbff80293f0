package cloud

import (
	"cmp"
	"iter"
	"slices"

	"entrepot/api"
)

// source is an iterator over dots in ascending order: each call returns the next one, or the end when there is none any more.
type source func() api.Dot

// end returns what is greater than all dots, so that in a merge it is never the lesser one.
func end() api.Dot {
	return api.Dot{R: api.MaxRegions + 1}
}

// sides tells in which ones of two lists a dot is.
type sides struct {
	first, second bool
}

// compare orders dots by their regions, then by their numbers.
func compare(a, b api.Dot) int {
	return cmp.Or(cmp.Compare(a.R, b.R), cmp.Compare(a.N, b.N))
}

// lesser returns the one of two dots that comes first.
func lesser(a, b api.Dot) api.Dot {
	if compare(a, b) < 0 {
		return a
	}
	return b
}

// sorted returns dots in ascending order, in a list of its own.
func sorted(dots []api.Dot) []api.Dot {
	list := slices.Clone(dots)
	slices.SortFunc(list, compare)
	return list
}

// each returns an iterator over a list of dots.
func each(dots []api.Dot) source {
	return func() api.Dot {
		if len(dots) == 0 {
			return end()
		}
		d := dots[0]
		dots = dots[1:]
		return d
	}
}

// merge yields the lesser one of the next dots of two iterators, once if both have it, and tells which of them do.
func merge(a, b source) iter.Seq2[api.Dot, sides] {
	return func(yield func(d api.Dot, in sides) bool) {
		x, y := a(), b()
		for x != end() || y != end() {
			d := lesser(x, y)
			in := sides{x == d, y == d}
			if !yield(d, in) {
				return
			}
			if in.first {
				x = a()
			}
			if in.second {
				y = b()
			}
		}
	}
}

// together returns the dots of two lists in ascending order, as these are.
func together(a, b []api.Dot) []api.Dot {
	var list []api.Dot
	for d := range merge(each(a), each(b)) {
		list = append(list, d)
	}
	return list
}
