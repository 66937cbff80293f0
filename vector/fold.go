package vector

import (
	"iter"

	"entrepot/api"
)

// sides yields both numbers of each region that v or w has one of.
func sides(v, w []int) iter.Seq2[int, int] {
	return func(yield func(x, y int) bool) {
		for i := range max(len(v), len(w)) {
			if !yield(At(v, i+1), At(w, i+1)) {
				return
			}
		}
	}
}

// fold chooses one of both numbers of each region, and takes these into a value, one after the other.
func fold[T any](v, w []int, choose func(x, y int) int, value T, take func(T, int) T) T {
	for x, y := range sides(v, w) {
		value = take(value, choose(x, y))
	}
	return value
}

func greater(x, y int) int {
	return max(x, y)
}

func lesser(x, y int) int {
	return min(x, y)
}

// room returns an empty list with room for a number of each region.
func room(v, w []int) []int {
	return make([]int, 0, max(len(v), len(w)))
}

func put(list []int, n int) []int {
	return append(list, n)
}

// add asks for what is left of the cap first: the sum itself might be no int any more.
func add(sum, n int) int {
	return sum + min(n, api.Cap-sum)
}

// earlier returns the first one of two dots by their regions, then by their numbers.
func earlier(a, b api.Dot) api.Dot {
	if a.R < b.R || a.R == b.R && a.N < b.N {
		return a
	}
	return b
}
