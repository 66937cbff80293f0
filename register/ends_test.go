package register_test

import (
	"slices"
	"testing"

	"entrepot/api"
	"entrepot/register"
)

// P16.1, P16.2: regions and numbers about their ends, held at each place, or written.
func TestRanges(t *testing.T) {
	regions := []int{least, -16, -1, 0, 1, 2, 15, 16, 17, 18, 1 << 32, 1<<32 + 1, greatest}
	numbers := []int{least, least + 1, -1, 0, 1, 2, 3, lastNumber - 1, lastNumber, lastNumber + 1, 1 << 32, 1<<32 + 1, greatest}
	all := of(slices.Repeat([]int{lastNumber}, mostRegions))
	some := reg(of([]int{9, 9, 9}, dot(16, lastNumber)), at(2, 3, idA), at(2, 5, idB), at(2, 7, idA))
	for _, r := range regions {
		for _, n := range numbers {
			for i := range 4 {
				checkOne(t, reg(all, slices.Insert(slices.Clone(some.Held), i, at(r, n, idB))...))
				checkOne(t, reg(some.Seen, slices.Insert(slices.Clone(some.Held), i, at(r, n, idB))...))
			}
			checkOne(t, reg(all, at(r, n, idA)))
			checkWrite(t, some, dot(r, n), idB, of(nil))
			checkWrite(t, some, dot(r, n), idB, of([]int{1, 4}))
			checkWrite(t, reg(of(nil)), dot(r, n), idB, of([]int{1, 4}, dot(16, lastNumber)))
			checkWrite(t, reg(all, some.Held...), dot(r, n), idB, of(nil))
			checkWrite(t, some, dot(r, n), idB, all)
		}
	}
}

// P16.1 to P16.3: a dot of each region held, and those of each number of regions seen.
func TestRegions(t *testing.T) {
	held := holding(universe(mostRegions, 1), idA, idB, idC)
	for n := range mostRegions + 2 {
		seen := of(slices.Repeat([]int{1}, n))
		for k := range mostRegions + 1 {
			checkOne(t, reg(seen, held[:k]...))
			checkJoin(t, reg(seen, held[:min(n, k)]...), reg(of(slices.Repeat([]int{1}, k)), held[:k/2]...))
			checkClear(t, reg(seen, held[:min(n, k)]...), of(slices.Repeat([]int{1}, k)))
		}
		checkWrite(t, reg(seen, held[:min(n, mostRegions)]...), dot(n+1, 1), idD, of(nil))
		checkWrite(t, reg(seen, held[:min(n, mostRegions)]...), dot(n+1, 1), idD, seen)
	}
}

// P16.2, P16.3: as many dots seen as there may be, one less, and one more than that.
func TestManySeen(t *testing.T) {
	for _, many := range []int{mostDots - 2, mostDots - 1, mostDots, mostDots + 1} {
		dots := every(2, 3, 2, many)
		for _, first := range []int{0, 1} {
			r := reg(of([]int{first, 1}, dots...), at(2, 1, idA), at(2, 5, idB))
			if first == 0 {
				r.Seen.V = []int{0, 1}
			}
			for _, d := range []api.Dot{dot(1, 1), dot(1, 2), dot(1, 3), dot(2, 2), dot(2, 3), dot(2, 4), dot(2, 6), dot(2, 2*many+2), dot(3, 1), dot(3, 2), dot(17, 1)} {
				for _, c := range []api.Cloud{of(nil), of([]int{1}), of([]int{0, 1}), of([]int{0, 2}), of(nil, dot(2, 4)), of(nil, dot(3, 2)), of(nil, dot(3, 2), dot(3, 3)), of([]int{1}, dot(3, 2))} {
					checkWrite(t, r, d, idC, c)
				}
			}
			for _, c := range []api.Cloud{of(nil), of([]int{1}), of([]int{2}), of([]int{0, 2}), of(nil, dot(1, 2)), of(nil, dot(1, 3)), of(nil, dot(1, 3), dot(1, 4)), of(nil, dot(2, 4)), of(nil, dot(2, 4), dot(3, 2)), r.Seen, of([]int{0, 2 * many}, every(4, 2, 2, mostDots)...)} {
				checkClear(t, r, c)
				checkJoin(t, r, reg(c))
				checkJoin(t, reg(c), r)
			}
		}
	}
}

// P16.2: a context with as many dots as there may be, of which r has seen some, or which takes those of r in.
func TestManyInContext(t *testing.T) {
	context := of(nil, every(1, 2, 2, mostDots)...)
	for _, r := range []api.Register{
		reg(of(nil)), reg(of([]int{1})), reg(of([]int{3}), at(1, 2, idA), at(1, 3, idB)), reg(context, at(1, 2, idA), at(1, 4, idA), at(1, 2*mostDots, idA)),
		reg(of([]int{0, 1}), at(2, 1, idA)), reg(of(nil, dot(2, 2)), at(2, 2, idA)), reg(of(nil, dot(1, 3), dot(1, 5)), at(1, 3, idA)), reg(of(nil, every(1, 3, 2, mostDots)...), at(1, 3, idA), at(1, 2*mostDots+1, idA)),
	} {
		checkClear(t, r, context)
		checkClear(t, reg(context), r.Seen)
		checkJoin(t, r, reg(context, at(1, 2, idA)))
		checkJoin(t, reg(context, at(1, 2, idA)), r)
		for _, d := range []api.Dot{dot(1, 1), dot(1, 2), dot(1, 3), dot(1, 9), dot(1, 2*mostDots), dot(1, 2*mostDots+1), dot(1, 2*mostDots+2), dot(2, 1), dot(2, 2), dot(3, 1), dot(3, 2)} {
			checkWrite(t, r, d, idC, context)
			checkWrite(t, reg(context), d, idC, r.Seen)
		}
	}
}

// P16.1 to P16.3: all of many dots held, under a vector or beside it, with digests that take turns.
func TestManyHeld(t *testing.T) {
	seen := of([]int{5000, 0, 300}, every(2, 2, 2, mostDots)...)
	for _, ids := range [][]api.ID{{idA}, {idD, idB, idA, idC, idB}} {
		all := holding(dotsOf(reg(seen).Seen), ids...)
		slices.SortFunc(all, func(x, y api.Held) int { return x.Dot.R*lastNumber*2 + x.Dot.N - y.Dot.R*lastNumber*2 - y.Dot.N })
		r := reg(seen, all...)
		checkOne(t, r)
		for i := 0; i < len(all); i += 2711 {
			lesser := reg(seen, slices.Delete(slices.Clone(all), i, i+1)...)
			twice := reg(seen, slices.Insert(slices.Clone(all), i, all[i])...)
			checkOne(t, lesser)
			checkOne(t, twice)
			checkJoin(t, r, lesser)
			checkJoin(t, lesser, r)
			checkJoin(t, lesser, reg(of([]int{i})))
			other := reg(seen, slices.Clone(all)...)
			other.Held[i].ID = api.ID{77}
			checkOne(t, other)
			checkJoin(t, r, other)
			checkClear(t, r, of([]int{i}, all[i].Dot)) // mostly in no form
			checkClear(t, r, of(nil, dot(2, 2), dot(2, 8000)))
			checkWrite(t, r, dot(4, 1), idD, of([]int{i + 1}))
		}
	}
}

// P16.1 to P16.3: a register of very many dots is looked at in a time that is about as long as it is.
func TestVeryManyHeld(t *testing.T) {
	const many = 1 << 18
	dots := every(2, 2, 2, mostDots)
	r := reg(of([]int{lastNumber}, dots...), holding(every(1, 3, 3, many), idB, idA)...)
	if got := register.IDs(r); !slices.Equal(got, []api.ID{idA, idB}) || register.Check(r) != api.OK {
		t.Fatalf("%v", got)
	}
	last := reg(r.Seen, r.Held[many-1])
	got, err := register.Join(r, last)
	result(t, "Join", got, err, last, api.OK)
	got, err = register.Join(r, reg(of([]int{2}, dot(1, 4)), at(1, 1, idA)))
	result(t, "Join", got, err, r, api.OK)
	got, err = register.Clear(r, of([]int{3*many - 1}))
	result(t, "Clear", got, err, last, api.OK)
	got, err = register.Write(r, dot(3, 1), idD, of([]int{lastNumber}))
	result(t, "Write", got, err, reg(of([]int{lastNumber, 0, 1}, dots...), at(3, 1, idD)), api.OK)
	got, err = register.Write(r, dot(3, 1), idD, of(nil, every(1, 3, 3, mostDots)...))
	result(t, "Write", got, err, reg(of([]int{lastNumber, 0, 1}, dots...), append(slices.Clone(r.Held[mostDots:]), at(3, 1, idD))...), api.OK)
	r.Held[many-1].Dot.N -= 3
	if register.Check(r) != api.ErrArg {
		t.Error("a dot that is there twice")
	}
}

// P16.3: two registers that are alike but for each bit of a digest, and for each part of a dot.
func TestUnlikeDigests(t *testing.T) {
	a := reg(of([]int{4, 4}), at(1, 2, idA), at(2, 2, idB), at(2, 4, idC))
	for i := range a.Held {
		for bit := range 256 {
			b := reg(a.Seen, slices.Clone(a.Held)...)
			b.Held[i].ID[bit/8] ^= 1 << (bit % 8)
			checkOne(t, b)
			checkJoin(t, a, b)
			checkJoin(t, b, a)
			checkOne(t, reg(a.Seen, at(1, 1, a.Held[i].ID), at(1, 2, b.Held[i].ID)))
			checkWrite(t, a, dot(3, 1), b.Held[i].ID, of([]int{1}))
		}
	}
}

// P16.2, P16.3: things that share their lists, or are parts of each other, are ones like others.
func TestSharedLists(t *testing.T) {
	whole := given(reg(of([]int{1, 0, 2, 5}, dot(1, 3), dot(2, 2), dot(3, 5), dot(4, 9), dot(5, 3)), at(1, 1, idA), at(1, 3, idB), at(3, 2, idA), at(4, 9, idC)))
	before := reg(of(slices.Clone(whole.Seen.V), slices.Clone(whole.Seen.Dots)...), slices.Clone(whole.Held)...)
	for range 2 {
		got, err := register.Join(whole, whole)
		result(t, "Join", got, err, before, api.OK)
		spoil(got)
		got, err = register.Clear(whole, whole.Seen)
		result(t, "Clear", got, err, reg(before.Seen), api.OK)
		spoil(got)
		want, wanted := written(before, dot(2, 1), idD, before.Seen)
		got, err = register.Write(whole, dot(2, 1), idD, whole.Seen)
		result(t, "Write", got, err, want, wanted)
		spoil(got)
		kept(t, whole, before)
	}
	for v := range len(whole.Seen.V) + 1 {
		for dots := range len(whole.Seen.Dots) + 1 {
			for held := range len(whole.Held) + 1 {
				part := reg(of(whole.Seen.V[:v], whole.Seen.Dots[:dots]...), whole.Held[:held]...)
				copied := reg(of(before.Seen.V[:v], before.Seen.Dots[:dots]...), before.Held[:held]...)
				want, wanted := joined(copied, before)
				got, err := register.Join(part, whole)
				result(t, "Join", got, err, want, wanted)
				spoil(got)
				want, wanted = written(before, dot(6, 1), idD, copied.Seen)
				got, err = register.Write(whole, dot(6, 1), idD, part.Seen)
				result(t, "Write", got, err, want, wanted)
				spoil(got)
				kept(t, whole, before)
			}
		}
	}
}

// P16.2, P16.3: no two lists of a result share memory with those of another one, whichever of them is nil or empty.
func TestNewMemory(t *testing.T) {
	a, b := given(reg(of([]int{2, 1}, dot(1, 4)), at(1, 2, idA))), given(reg(of([]int{1, 1}, dot(1, 3)), at(2, 1, idB)))
	first, _ := register.Join(a, b)
	again, _ := register.Join(a, b)
	spoil(first)
	want, _ := joined(a, b)
	result(t, "Join", again, api.OK, want, api.OK)
	next, err := register.Join(again, again)
	spoil(again)
	result(t, "Join", next, err, want, api.OK)
	empty := reg(of(make([]int, 0, 4), make([]api.Dot, 0, 4)...), make([]api.Held, 0, 4)...)
	for range 2 {
		got, err := register.Join(empty, empty)
		result(t, "Join", got, err, reg(of(nil)), api.OK)
		got.Held, got.Seen.V, got.Seen.Dots = append(got.Held, at(1, 1, idA)), append(got.Seen.V, 1), append(got.Seen.Dots, dot(1, 3))
		if h, v, d := empty.Held[:1][0], empty.Seen.V[:1][0], empty.Seen.Dots[:1][0]; h != (api.Held{}) || v != 0 || d != (api.Dot{}) {
			t.Fatalf("behind the ends: %v, %v, %v", h, v, d)
		}
	}
}
