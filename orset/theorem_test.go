package orset_test

import (
	"slices"
	"testing"

	"entrepot/api"
	"entrepot/orset"
)

// numbered tells the place of each set among all.
func numbered(t *testing.T, all []api.Set) func(s api.Set) int {
	key := func(s api.Set) string {
		text := ""
		for _, h := range s.Held {
			text += string(rune('a'+h.Dot.R)) + string(rune(h.Dot.N)) + string(h.ID[:])
		}
		for _, d := range dotsOf(s.Seen) {
			text += string(rune('A'+d.R)) + string(rune(d.N))
		}
		return text
	}
	places := map[string]int{}
	for i, s := range all {
		places[key(s)] = i
	}
	return func(s api.Set) int {
		i, is := places[key(s)]
		if !is || !same(all[i], s) {
			t.Fatalf("%v is none of the sets", s)
		}
		return i
	}
}

// P17.5: joins of all small sets do not depend on any order, and change nothing when they come again.
func TestJoinsInAnyOrder(t *testing.T) {
	for _, dots := range [][]api.Dot{universe(1, 5), universe(2, 2), universe(5, 1), {dot(1, 2), dot(1, 3), dot(2, 1), dot(16, lastNumber-1), dot(16, lastNumber)}} {
		all := sets(dots, oneID)
		place := numbered(t, all)
		table := make([][]int, len(all))
		for i, a := range all {
			for _, b := range all {
				table[i] = append(table[i], place(join(t, a, b)))
			}
		}
		for i := range all {
			if table[i][i] != i {
				t.Fatalf("%v joined with itself: %v", all[i], all[table[i][i]])
			}
			for k := range all {
				checkTriples(t, all, table, i, k)
			}
		}
	}
}

// checkTriples expects the joins of two sets, in both orders, to be the same, and those with each third one.
func checkTriples(t *testing.T, all []api.Set, table [][]int, i, k int) {
	t.Helper()
	both := table[i][k]
	if both != table[k][i] || table[both][i] != both || table[k][both] != both {
		t.Fatalf("%v and %v: %v, %v", all[i], all[k], all[both], all[table[k][i]])
	}
	for n := range all {
		if table[both][n] != table[i][table[k][n]] {
			t.Fatalf("%v, %v and %v: %v, %v", all[i], all[k], all[n], all[table[both][n]], all[table[i][table[k][n]]])
		}
	}
}

// P17.5: who adds what another one drops, without having seen it, still has it after the join, in any order.
func TestAddsBesideDrops(t *testing.T) {
	here, there := dot(3, 1), dot(4, 2)
	all := sets(universe(2, 2), oneID)
	for _, a := range all {
		for _, b := range all {
			for _, id := range orset.IDs(b) {
				x, y := add(t, a, here, id), drop(t, b, id)
				for _, both := range []api.Set{join(t, x, y), join(t, y, x)} {
					if !orset.Has(both, id) || !slices.Contains(both.Held, api.Held{Dot: here, ID: id}) {
						t.Fatalf("%v and %v: %v has lost what was added", x, y, both)
					}
				}
				z := drop(t, add(t, b, there, id), id)
				if both := join(t, z, x); !slices.Contains(both.Held, api.Held{Dot: here, ID: id}) || slices.Contains(dotsIn(both.Held), there) {
					t.Fatalf("%v and %v: %v", z, x, both)
				}
			}
		}
	}
}

// P17.5: what both had seen, and one of them dropped, is gone after the join; all that nobody dropped is there.
func TestDropsOfWhatWasSeen(t *testing.T) {
	all := sets(universe(2, 2), oneID)
	for _, a := range all {
		for _, b := range all {
			for _, id := range orset.IDs(b) {
				less, both := drop(t, b, id), join(t, a, b)
				together := join(t, a, less)
				if !same(together, join(t, less, a)) || !sameSeen(together.Seen, both.Seen) {
					t.Fatalf("%v and %v: %v", a, less, together)
				}
				for _, h := range both.Held {
					gone := h.ID == id && ask(b.Seen).has(h.Dot)
					if slices.Contains(together.Held, h) == gone {
						t.Fatalf("%v and %v: %v of %v", a, less, together, h)
					}
				}
				if after := join(t, both, less); orset.Has(after, id) != orset.Has(together, id) || !same(after, together) {
					t.Fatalf("%v and %v: %v", both, less, after)
				}
			}
		}
	}
}

// P17.5: who has seen at least something, and is changed by what came since, has the same as if joined with the whole set.
func TestDeltasAreJoins(t *testing.T) {
	for _, dots := range [][]api.Dot{universe(1, 4), universe(2, 2), universe(4, 1), {dot(1, 1), dot(1, 3), dot(2, 2), dot(16, lastNumber)}} {
		all := sets(dots, oneID)
		for _, a := range all {
			since := clouds(dotsOf(a.Seen))
			for _, s := range all {
				want := join(t, a, s)
				for _, c := range since {
					if got := follow(t, a, s, c); !same(got, want) {
						t.Fatalf("%v, changed by what %v has since %v: %v, not %v", a, s, c, got, want)
					}
				}
			}
		}
	}
}

// P17.4, P17.5: a change of all that a set holds is the set itself for whoever has seen nothing, and changing twice is the same as changing once.
func TestChangesAgain(t *testing.T) {
	dots := universe(2, 2)
	all := changes(dots, oneID)
	for _, s := range sets(dots, oneID) {
		if got := follow(t, api.Set{}, s, of(nil)); !same(got, s) {
			t.Fatalf("%v: %v", s, got)
		}
		if got := follow(t, s, s, s.Seen); !same(got, s) {
			t.Fatalf("%v, changed by itself: %v", s, got)
		}
		for _, c := range all {
			once, err := orset.Apply(s, c)
			if err != api.OK {
				t.Fatalf("Apply(%v, %v): %v", s, c, err)
			}
			again, err := orset.Apply(once, c)
			result(t, "Apply", again, err, once, api.OK)
		}
	}
}
