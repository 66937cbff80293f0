package register_test

import (
	"slices"
	"testing"

	"entrepot/api"
	"entrepot/register"
)

// join is the join of registers, which must be there.
func join(t *testing.T, a, b api.Register) api.Register {
	t.Helper()
	r, err := register.Join(a, b)
	if err != api.OK {
		t.Fatalf("Join(%v, %v): %v", brief(a), brief(b), err)
	}
	return r
}

// write is what is written, which must be possible.
func write(t *testing.T, r api.Register, d api.Dot, id api.ID, context api.Cloud) api.Register {
	t.Helper()
	w, err := register.Write(r, d, id, context)
	if err != api.OK {
		t.Fatalf("Write(%v, %v, %v): %v", brief(r), d, context, err)
	}
	return w
}

// oneID is the only digest with which the i-th dot may be held: some dots have the same one.
func oneID(i int) []api.ID {
	return [][]api.ID{{idB}, {idA}, {idB}, {idD}, {idC}, {idA}}[i]
}

// numbered tells the place of each register among all.
func numbered(t *testing.T, all []api.Register) func(r api.Register) int {
	key := func(r api.Register) string {
		text := ""
		for _, h := range r.Held {
			text += string(rune('a'+h.Dot.R)) + string(rune(h.Dot.N)) + string(h.ID[:])
		}
		for _, d := range dotsOf(r.Seen) {
			text += string(rune('A'+d.R)) + string(rune(d.N))
		}
		return text
	}
	places := map[string]int{}
	for i, r := range all {
		places[key(r)] = i
	}
	return func(r api.Register) int {
		i, is := places[key(r)]
		if !is || !same(all[i], r) {
			t.Fatalf("%v is none of the registers", r)
		}
		return i
	}
}

// P16.4: joins of all small registers do not depend on any order, and change nothing when they come again.
func TestJoinsInAnyOrder(t *testing.T) {
	for _, dots := range [][]api.Dot{universe(1, 5), universe(2, 2), universe(5, 1), {dot(1, 2), dot(1, 3), dot(2, 1), dot(16, lastNumber-1), dot(16, lastNumber)}} {
		all := registers(dots, oneID)
		place := numbered(t, all)
		table := make([][]int, len(all))
		for i, a := range all {
			for _, b := range all {
				table[i] = append(table[i], place(join(t, a, b)))
			}
		}
		for i := range all {
			if table[i][i] != i {
				t.Fatalf("%v joined with itself: %v", all[i], all[table[i][i]])
			}
			for k := range all {
				checkTriples(t, all, table, i, k)
			}
		}
	}
}

// checkTriples expects the joins of two registers, in both orders, to be the same, and those with each third one.
func checkTriples(t *testing.T, all []api.Register, table [][]int, i, k int) {
	t.Helper()
	both := table[i][k]
	if both != table[k][i] || table[both][i] != both || table[k][both] != both {
		t.Fatalf("%v and %v: %v, %v", all[i], all[k], all[both], all[table[k][i]])
	}
	for n := range all {
		if table[both][n] != table[i][table[k][n]] {
			t.Fatalf("%v, %v and %v: %v, %v", all[i], all[k], all[n], all[table[both][n]], all[table[i][table[k][n]]])
		}
	}
}

// P16.4: who has seen everything and writes leaves just that digest, whatever else the context has.
func TestWriteOfAllSeen(t *testing.T) {
	dots := universe(2, 3)
	for _, r := range registers(dots, oneID) {
		for _, d := range []api.Dot{dot(3, 1), dot(1, 4), dot(1, 9), dot(2, 4), dot(16, lastNumber)} {
			for _, context := range []api.Cloud{r.Seen, set(append(dotsOf(r.Seen), dot(4, 1), dot(5, 3))...)} {
				w := write(t, r, d, idC, context)
				if !slices.Equal(w.Held, []api.Held{{Dot: d, ID: idC}}) || register.Torn(w) || !sameSeen(w.Seen, set(append(dotsOf(context), d)...)) {
					t.Fatalf("%v with %v: %v", r, d, w)
				}
			}
		}
	}
}

// P16.4: two writes in two registers, neither of which has seen the other one, are both there after a join, in any order; who then writes leaves that alone.
func TestConcurrentWrites(t *testing.T) {
	here, there, last := dot(3, 1), dot(4, 2), dot(5, 1)
	all := registers(universe(2, 2), oneID)
	for _, a := range all {
		for _, b := range all {
			for _, context := range []api.Cloud{of(nil), a.Seen, of([]int{1, 2})} {
				for _, ids := range [][2]api.ID{{idA, idB}, {idC, idC}} {
					x, y := write(t, a, here, ids[0], context), write(t, b, there, ids[1], b.Seen)
					checkBothThere(t, join(t, x, y), at(3, 1, ids[0]), at(4, 2, ids[1]))
					if both := join(t, y, x); !same(both, join(t, x, y)) {
						t.Fatalf("%v and %v: %v", x, y, both)
					}
					after := write(t, join(t, x, y), last, idD, join(t, y, x).Seen)
					if !slices.Equal(after.Held, []api.Held{{Dot: last, ID: idD}}) || !same(join(t, after, x), after) || !same(join(t, y, after), after) {
						t.Fatalf("after %v and %v: %v", x, y, after)
					}
				}
			}
		}
	}
}

// checkBothThere expects two things to be held, and to tear the register if they are unlike.
func checkBothThere(t *testing.T, r api.Register, x, y api.Held) {
	t.Helper()
	if !slices.Contains(r.Held, x) || !slices.Contains(r.Held, y) || x.ID != y.ID && !register.Torn(r) {
		t.Fatalf("%v has not both, %v and %v", r, x, y)
	}
	if ids := register.IDs(r); !slices.Contains(ids, x.ID) || !slices.Contains(ids, y.ID) {
		t.Fatalf("%v has the digests %v", r, ids)
	}
}

// P16.5: to write in a join is to join what was written, where the other one has not seen the dot, and the first one has seen the context.
func TestWritesInJoins(t *testing.T) {
	for _, dots := range [][]api.Dot{universe(1, 3), universe(2, 2), {dot(1, 1), dot(1, 3), dot(2, 2)}} {
		all := registers(dots, oneID)
		for _, a := range all {
			contexts := subsets(dotsOf(a.Seen))
			for _, b := range all {
				both := join(t, a, b)
				for _, d := range append(slices.Clone(dots), dot(1, 4), dot(3, 1)) {
					if slices.Contains(dotsOf(both.Seen), d) {
						continue
					}
					for _, context := range contexts {
						if x, y := write(t, both, d, idC, context), join(t, write(t, a, d, idC, context), b); !same(x, y) {
							t.Fatalf("%v and %v, written %v by who had seen %v: %v, %v", a, b, d, context, x, y)
						}
					}
				}
			}
		}
	}
}

// P16.2, P16.3: to clear is to join with who has seen the context and holds nothing, and to write is to clear, and to join with the digest alone.
func TestClearIsJoin(t *testing.T) {
	dots := universe(2, 2)
	for _, r := range registers(dots, twoIDs) {
		for _, context := range subsets(append(slices.Clone(dots), dot(3, 1))) {
			less, err := register.Clear(r, context)
			result(t, "Clear", less, err, join(t, r, reg(context)), api.OK)
			d := dot(4, 2)
			if w := write(t, r, d, idC, context); !same(w, join(t, less, reg(set(d), at(4, 2, idC)))) {
				t.Fatalf("%v by who had seen %v: %v", r, context, w)
			}
			for _, h := range r.Held {
				if slices.Contains(less.Held, h) == slices.Contains(dotsOf(context), h.Dot) {
					t.Fatalf("%v without %v: %v", r, context, less)
				}
			}
		}
	}
}
