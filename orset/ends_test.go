package orset_test

import (
	"slices"
	"testing"

	"entrepot/api"
	"entrepot/orset"
)

// P17.1 to P17.4: regions and numbers about their ends, held, added, new or kept at each place.
func TestRanges(t *testing.T) {
	regions := []int{least, -16, -1, 0, 1, 2, 15, 16, 17, 18, 1 << 32, 1<<32 + 1, greatest}
	numbers := []int{least, least + 1, -1, 0, 1, 2, 3, lastNumber - 1, lastNumber, lastNumber + 1, 1 << 32, 1<<32 + 1, greatest}
	all := of(slices.Repeat([]int{lastNumber}, mostRegions))
	some := set(of([]int{9, 9, 9}, dot(16, lastNumber)), at(2, 3, idA), at(2, 5, idB), at(2, 7, idA))
	for _, r := range regions {
		for _, n := range numbers {
			for i := range 4 {
				held := slices.Insert(slices.Clone(some.Held), i, at(r, n, idB))
				checkOne(t, set(all, held...))
				checkOne(t, set(some.Seen, held...))
				checkApply(t, some, change(all, nil, held...))
				checkApply(t, some, change(some.Seen, dotsIn(held)))
				checkApply(t, some, change(all, []api.Dot{dot(r, n)}, some.Held...))
				checkApply(t, some, change(all, dotsIn(some.Held), at(r, n, idB)))
			}
			checkOne(t, set(all, at(r, n, idA)))
			checkAdd(t, some, dot(r, n), idB)
			checkAdd(t, set(of(nil)), dot(r, n), idB)
			checkAdd(t, set(all, some.Held...), dot(r, n), idB)
			checkDelta(t, set(all, some.Held...), of(nil, dot(r, n)))
			checkDelta(t, some, of([]int{n}, dot(2, 5)))
		}
	}
}

// P17.1 to P17.4: a dot of each region held, and those of each number of regions seen.
func TestRegions(t *testing.T) {
	held := holding(universe(mostRegions, 1), idA, idB, idC)
	for n := range mostRegions + 2 {
		seen := of(slices.Repeat([]int{1}, n))
		s := set(seen, held[:min(n, mostRegions)]...)
		for k := range mostRegions + 1 {
			c := of(slices.Repeat([]int{1}, k))
			checkOne(t, set(seen, held[:k]...))
			checkJoin(t, set(seen, held[:min(n, k)]...), set(c, held[:k/2]...))
			checkDelta(t, s, c)
			checkApply(t, s, change(c, nil, held[:k/2]...))
			checkApply(t, s, change(c, dotsIn(held[:k/2]), held[k/2:k]...))
			checkApply(t, set(c), change(seen, dotsIn(s.Held[:len(s.Held)/2]), s.Held[len(s.Held)/2:]...))
		}
		checkAdd(t, s, dot(n+1, 1), idD)
		checkDrop(t, s, idB)
	}
}

// P17.2 to P17.4: as many dots seen as there may be, one less, and one more than that.
func TestManySeen(t *testing.T) {
	for _, many := range []int{mostDots - 2, mostDots - 1, mostDots, mostDots + 1} {
		dots := every(2, 3, 2, many)
		for _, v := range [][]int{{0, 1}, {1, 1}} {
			s := set(of(v, dots...), at(2, 1, idA), at(2, 5, idB))
			for _, d := range []api.Dot{dot(1, 1), dot(1, 2), dot(1, 3), dot(2, 2), dot(2, 3), dot(2, 4), dot(2, 6), dot(2, 2*many+2), dot(3, 1), dot(3, 2), dot(17, 1)} {
				checkAdd(t, s, d, idC)
			}
			checkDrop(t, s, idA)
			checkDrop(t, s, idC)
			for _, c := range []api.Cloud{of(nil), of([]int{1}), of([]int{2}), of([]int{0, 2}), of(nil, dot(1, 2)), of(nil, dot(1, 3)), of(nil, dot(1, 3), dot(1, 4)), of(nil, dot(2, 4)), of(nil, dot(2, 4), dot(3, 2)), s.Seen, of([]int{0, 2 * many}, every(4, 2, 2, mostDots)...)} {
				checkJoin(t, s, set(c))
				checkJoin(t, set(c), s)
				checkDelta(t, s, c)
				checkDelta(t, set(c), s.Seen)
				checkApply(t, s, change(c, nil))
				checkApply(t, s, change(c, dotsOf(c)))
				checkApply(t, set(c), change(s.Seen, nil, s.Held...))
				checkApply(t, set(c), change(s.Seen, dotsIn(s.Held)))
			}
		}
	}
}

// P17.1 to P17.4: all of many dots held, under a vector or beside it, with digests that take turns.
func TestManyHeld(t *testing.T) {
	seen := of([]int{1500, 0, 300}, every(2, 2, 2, mostDots)...)
	for _, ids := range [][]api.ID{{idA}, {idD, idB, idA, idC, idB}} {
		all := inOrder(find(holding(dotsOf(seen), ids...)))
		s := set(seen, all...)
		checkOne(t, s)
		checkDrop(t, s, idB)
		for i := 0; i < len(all); i += 1711 {
			lesser := set(seen, slices.Delete(slices.Clone(all), i, i+1)...)
			checkOne(t, lesser)
			checkOne(t, set(seen, slices.Insert(slices.Clone(all), i, all[i])...))
			checkJoin(t, s, lesser)
			checkJoin(t, lesser, s)
			checkJoin(t, lesser, set(of([]int{i})))
			checkAdd(t, lesser, dot(4, 1), idD)
			other := set(seen, slices.Clone(all)...)
			other.Held[i].ID = api.ID{77}
			checkOne(t, other)
			checkDrop(t, other, api.ID{77})
			checkJoin(t, s, other)
			checkApply(t, other, change(seen, dotsIn(all[:i]), all[i:]...))
			checkApply(t, other, change(seen, dotsIn(all[:i+1]), all[i+1:]...))
			checkApply(t, other, change(seen, dotsIn(all[:i+1]), all[i:]...)) // one is in both
			checkDelta(t, s, of([]int{i}, all[i].Dot))                        // mostly in no form
			checkDelta(t, s, of(nil, dot(2, 2), dot(2, 8000)))
		}
	}
}

// P17.1 to P17.4: a set of very many dots is looked at in a time that is about as long as it is.
func TestVeryManyHeld(t *testing.T) {
	const many = 1 << 18
	dots := every(2, 2, 2, mostDots)
	s := set(of([]int{lastNumber}, dots...), holding(every(1, 3, 3, many), idB, idA)...)
	if got := orset.IDs(s); !slices.Equal(got, []api.ID{idA, idB}) || orset.Check(s) != api.OK || !orset.Has(s, idA) || orset.Has(s, idC) {
		t.Fatalf("%v", got)
	}
	half, err := orset.Drop(s, idA)
	result(t, "Drop", half, err, set(s.Seen, holding(every(1, 3, 6, many/2), idB)...), api.OK)
	got, err := orset.Join(half, s)
	result(t, "Join", got, err, half, api.OK)
	got, err = orset.Join(s, set(of([]int{2}, dot(1, 4)), at(1, 1, idA)))
	result(t, "Join", got, err, s, api.OK)
	got, err = orset.Add(s, dot(3, 1), idD)
	result(t, "Add", got, err, set(of([]int{lastNumber, 0, 1}, dots...), append(slices.Clone(s.Held), at(3, 1, idD))...), api.OK)
	c, err := orset.Delta(s, of(nil, every(1, 3, 3, mostDots)...))
	resultChange(t, "Delta", c, err, change(s.Seen, every(1, 3, 3, mostDots), s.Held[mostDots:]...), api.OK)
	got, err = orset.Apply(half, c)
	result(t, "Apply", got, err, half, api.OK)
	got, err = orset.Apply(set(of(nil, dots...)), c)
	result(t, "Apply", got, err, set(s.Seen, s.Held[mostDots:]...), api.OK)
	s.Held[many-1].Dot.N -= 3
	if orset.Check(s) != api.ErrArg {
		t.Error("a dot that is there twice")
	}
}

// P17.1 to P17.4: sets that are alike but for each bit of a digest.
func TestUnlikeDigests(t *testing.T) {
	a := set(of([]int{4, 4}), at(1, 2, idA), at(2, 2, idB), at(2, 4, idC))
	for i := range a.Held {
		for bit := range 256 {
			b := set(a.Seen, slices.Clone(a.Held)...)
			b.Held[i].ID[bit/8] ^= 1 << (bit % 8)
			checkOne(t, b)
			checkDrop(t, b, a.Held[i].ID)
			checkDrop(t, a, b.Held[i].ID)
			checkJoin(t, a, b)
			checkApply(t, a, change(b.Seen, dotsIn(b.Held[:i]), b.Held[i:]...))
			checkApply(t, a, change(b.Seen, dotsIn(b.Held[:i+1]), b.Held[i+1:]...))
			checkOne(t, set(a.Seen, at(1, 1, a.Held[i].ID), at(1, 2, b.Held[i].ID)))
			checkAdd(t, a, dot(3, 1), b.Held[i].ID)
			if id := b.Held[i].ID; orset.Has(a, id) != slices.Contains(digests(a), id) {
				t.Fatalf("Has(%v, %v) = %v", a, id, orset.Has(a, id))
			}
		}
	}
}

// P17.2 to P17.4: things that share their lists, or are parts of each other, are ones like others.
func TestSharedLists(t *testing.T) {
	before := set(of([]int{1, 0, 2, 5}, dot(1, 3), dot(2, 2), dot(3, 5), dot(4, 9), dot(5, 3)), at(1, 1, idA), at(1, 3, idB), at(3, 2, idA), at(4, 9, idC))
	whole := givenSet(before)
	for v := range len(whole.Seen.V) + 1 {
		for dots := range len(whole.Seen.Dots) + 1 {
			for held := range len(whole.Held) + 1 {
				part := set(of(whole.Seen.V[:v], whole.Seen.Dots[:dots]...), whole.Held[:held]...)
				copied := set(of(before.Seen.V[:v], before.Seen.Dots[:dots]...), before.Held[:held]...)
				want, wanted := joined(copied, before)
				got, err := orset.Join(part, whole)
				result(t, "Join", got, err, want, wanted)
				spoil(got)
				want, wanted = applied(before, change(copied.Seen, nil, copied.Held...))
				got, err = orset.Apply(whole, change(part.Seen, nil, part.Held...))
				result(t, "Apply", got, err, want, wanted)
				spoil(got)
				told, wanted := delta(before, copied.Seen)
				c, err := orset.Delta(whole, part.Seen)
				resultChange(t, "Delta", c, err, told, wanted)
				spoilChange(c)
				keptSet(t, whole, before)
			}
		}
	}
}

// P17.2 to P17.4: no two results, and no two lists of one, share memory, whichever of them is nil or empty.
func TestNewMemory(t *testing.T) {
	s := givenSet(set(of([]int{2, 1}, dot(1, 4)), at(1, 2, idA), at(2, 1, idB)))
	since := givenCloud(of(nil, dot(1, 2), dot(1, 4)))
	c, err := orset.Delta(s, since)
	again, _ := orset.Delta(s, since)
	spoilChange(again)
	want := change(s.Seen, []api.Dot{dot(1, 2)}, at(2, 1, idB))
	resultChange(t, "Delta", c, err, want, api.OK)
	got, err := orset.Apply(s, c)
	spoilChange(c)
	result(t, "Apply", got, err, s, api.OK)
	next, err := orset.Join(got, got)
	spoil(got)
	result(t, "Join", next, err, s, api.OK)
	got, err = orset.Drop(next, idA)
	spoil(next)
	result(t, "Drop", got, err, set(s.Seen, at(2, 1, idB)), api.OK)
	next, err = orset.Add(got, dot(1, 3), idC)
	spoil(got)
	result(t, "Add", next, err, set(of([]int{4, 1}), at(1, 3, idC), at(2, 1, idB)), api.OK)
	empty := set(of(make([]int, 0, 4), make([]api.Dot, 0, 4)...), make([]api.Held, 0, 4)...)
	for range 2 {
		got, err := orset.Join(empty, empty)
		result(t, "Join", got, err, set(of(nil)), api.OK)
		extend(got.Held, got.Seen)
		c, err := orset.Delta(empty, empty.Seen)
		resultChange(t, "Delta", c, err, change(of(nil), nil), api.OK)
		extend(c.New, c.Seen)
		got, err = orset.Apply(empty, c)
		result(t, "Apply", got, err, set(of(nil)), api.OK)
		extend(got.Held, got.Seen)
		if h, v, d := empty.Held[:1][0], empty.Seen.V[:1][0], empty.Seen.Dots[:1][0]; h != (api.Held{}) || v != 0 || d != (api.Dot{}) {
			t.Fatalf("behind the ends: %v, %v, %v", h, v, d)
		}
	}
}

// extend puts something behind the ends of lists that are results.
func extend(held []api.Held, seen api.Cloud) {
	_ = append(held, at(1, 1, idA))
	_ = append(seen.V, 1)
	_ = append(seen.Dots, dot(1, 3))
}
