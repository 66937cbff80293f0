package register_test

import (
	"slices"
	"testing"

	"entrepot/api"
	"entrepot/register"
)

// P16.1: the examples, and each reason for which a register is not in its form.
func TestExamplesOfCheck(t *testing.T) {
	two := []api.Held{at(1, 1, idA), at(2, 1, idB)}
	for _, x := range []struct {
		r    api.Register
		want api.Errno
	}{
		{reg(of(nil)), api.OK}, {reg(of([]int{}), []api.Held{}...), api.OK}, {reg(of([]int{1}), at(1, 1, idA)), api.OK}, {reg(of([]int{1})), api.OK},
		{reg(of([]int{1, 1}), two...), api.OK}, {reg(of([]int{5}, dot(2, 2)), at(1, 2, idA), at(1, 4, idA), at(2, 2, idA)), api.OK},
		{reg(of(nil, dot(16, lastNumber)), at(16, lastNumber, idB)), api.OK}, {reg(of([]int{lastNumber}), at(1, lastNumber, idB)), api.OK},
		{reg(of([]int{20, 20}), at(1, 9, idA), at(1, 10, idB), at(2, 3, idA)), api.OK},
		{reg(of(nil), at(1, 1, idA)), api.ErrArg}, {reg(of([]int{1}), two...), api.ErrArg}, {reg(of([]int{0, 1}), two...), api.ErrArg}, {reg(of([]int{1}), at(1, 2, idA)), api.ErrArg},
		{reg(of([]int{1, 1}), two[1], two[0]), api.ErrArg}, {reg(of([]int{1, 1}), two[0], two[0]), api.ErrArg}, {reg(of([]int{1, 1}), two[0], at(1, 1, idB)), api.ErrArg},
		{reg(of([]int{9, 9}), at(1, 1, idA), at(1, 2, idA), at(1, 2, idB), at(2, 1, idA)), api.ErrArg}, {reg(of([]int{9, 9}), at(1, 3, idA), at(1, 2, idB), at(2, 1, idA)), api.ErrArg},
		{reg(of([]int{9, 9}), at(1, 3, idA), at(2, 1, idA), at(2, 1, idA)), api.ErrArg}, {reg(of([]int{9, 9}), at(2, 1, idA), at(1, 2, idA)), api.ErrArg}, {reg(of([]int{9, 9}), at(1, 1, idA), at(2, 3, idA), at(2, 2, idA)), api.ErrArg},
		{reg(of([]int{1}), at(1, 0, idA)), api.ErrArg}, {reg(of([]int{1}), at(1, -1, idA)), api.ErrArg}, {reg(of([]int{1}), at(0, 1, idA)), api.ErrArg}, {reg(of([]int{1}), at(-1, 1, idA)), api.ErrArg},
		{reg(of([]int{1}), at(17, 1, idA)), api.ErrArg}, {reg(of([]int{lastNumber}), at(1, lastNumber+1, idA)), api.ErrArg}, {reg(of([]int{1}), at(least, greatest, idA)), api.ErrArg}, {reg(of([]int{1}), at(0, 0, api.ID{})), api.ErrArg},
		{reg(of([]int{2}, dot(1, 4)), at(1, 3, idA)), api.ErrArg}, {reg(of([]int{2}, dot(1, 4)), at(1, 5, idA)), api.ErrArg}, {reg(of([]int{2}, dot(1, 4)), at(2, 4, idA)), api.ErrArg}, {reg(of([]int{2}, dot(1, 4)), at(1, 4, idA)), api.OK},
		{reg(of([]int{0})), api.ErrArg}, {reg(of([]int{1, 0}), two[0]), api.ErrArg}, {reg(of(nil, dot(1, 1)), two[0]), api.ErrArg}, {reg(of(nil, dot(1, 3), dot(1, 2)), at(1, 2, idA)), api.ErrArg},
		{reg(of([]int{-1})), api.ErrRange}, {reg(of([]int{lastNumber + 1}), two[0]), api.ErrRange}, {reg(of(make([]int, 17))), api.ErrRange}, {reg(of(nil, dot(17, 2)), at(17, 2, idA)), api.ErrRange}, {reg(of(nil, dot(1, 0)), at(1, 0, idA)), api.ErrRange},
		{reg(of([]int{-1}), two[1], two[0]), api.ErrRange}, {reg(of(nil, every(1, 2, 2, mostDots+1)...), two[1], two[0]), api.ErrFull}, {reg(of(nil, every(1, 2, 2, mostDots+1)...), at(1, 2, idA)), api.ErrFull}, {reg(of(nil, every(1, 2, 2, mostDots)...), at(1, 2, idA)), api.OK},
	} {
		if got := register.Check(x.r); got != x.want {
			t.Errorf("Check(%v) = %v, not %v", brief(x.r), got, x.want)
		}
		checkOne(t, x.r)
	}
}

// P16.1: the examples of IDs and Torn, digests that come in any order, often, or in no form.
func TestExamplesOfIDs(t *testing.T) {
	seen := of([]int{4, 4})
	for _, x := range []struct {
		r    api.Register
		want []api.ID
		torn bool
	}{
		{reg(of([]int{1, 1}), at(1, 1, idB), at(2, 1, idA)), []api.ID{idA, idB}, true},
		{reg(of([]int{1, 1}), at(1, 1, idA), at(2, 1, idA)), []api.ID{idA}, false},
		{reg(of([]int{1, 1}), at(1, 1, idA), at(2, 1, idB)), []api.ID{idA, idB}, true},
		{reg(of([]int{1}), at(1, 1, idD)), []api.ID{idD}, false},
		{reg(of(nil)), nil, false}, {reg(seen), nil, false},
		{reg(seen, holding(universe(2, 4), idD, idB, idC, idA)...), []api.ID{idA, idB, idC, idD}, true},
		{reg(seen, holding(universe(2, 4), idB)...), []api.ID{idB}, false},
		{reg(seen, at(1, 1, idA), at(1, 2, idB), at(2, 1, idA)), []api.ID{idA, idB}, true},
		{reg(seen, at(1, 1, idA), at(1, 2, idA), at(2, 1, api.ID{31: 1})), []api.ID{idA, {31: 1}}, true},
		{reg(seen, at(1, 1, api.ID{31: 255}), at(1, 2, api.ID{128}), at(2, 1, api.ID{0, 255}), at(2, 2, api.ID{127})), []api.ID{{31: 255}, {0, 255}, {127}, {128}}, true},
		{reg(of([]int{1}), at(1, 1, idB), at(2, 1, idA)), nil, false}, {reg(seen, at(2, 1, idB), at(1, 1, idA)), nil, false}, {reg(seen, at(1, 1, idB), at(1, 1, idA)), nil, false},
		{reg(of([]int{1, 1, 0}), at(1, 1, idB), at(2, 1, idA)), nil, false}, {reg(of([]int{1, 1, -1}), at(1, 1, idB), at(2, 1, idA)), nil, false}, {reg(of([]int{1, 1}, dot(17, 1)), at(1, 1, idB), at(2, 1, idA)), nil, false},
		{reg(of([]int{1, 1}, every(3, 2, 1, mostDots+1)...), at(1, 1, idB), at(2, 1, idA)), nil, false}, {reg(of([]int{1, 1}, every(3, 2, 1, mostDots)...), at(1, 1, idB), at(2, 1, idA)), []api.ID{idA, idB}, true},
	} {
		if got := register.IDs(x.r); !slices.Equal(got, x.want) {
			t.Errorf("IDs(%v) = %v, not %v", brief(x.r), got, x.want)
		}
		if got := register.Torn(x.r); got != x.torn {
			t.Errorf("Torn(%v) = %v", brief(x.r), got)
		}
		checkOne(t, x.r)
	}
}

// P16.2: the examples of Write, and each error.
func TestExamplesOfWrite(t *testing.T) {
	one := reg(of([]int{1}), at(1, 1, idA))
	full := every(3, 2, 2, mostDots)
	for _, x := range []struct {
		r       api.Register
		d       api.Dot
		id      api.ID
		context api.Cloud
		want    api.Register
		err     api.Errno
	}{
		{reg(of(nil)), dot(1, 1), idA, of(nil), one, api.OK},
		{one, dot(2, 1), idB, of([]int{1}), reg(of([]int{1, 1}), at(2, 1, idB)), api.OK},
		{one, dot(2, 1), idB, of(nil), reg(of([]int{1, 1}), at(1, 1, idA), at(2, 1, idB)), api.OK},
		{one, dot(1, 1), idB, of(nil), reg(of(nil)), api.ErrDouble},
		{reg(of(nil)), dot(0, 1), idA, of(nil), reg(of(nil)), api.ErrRange},
		{one, dot(2, 1), idA, of(nil), reg(of([]int{1, 1}), at(1, 1, idA), at(2, 1, idA)), api.OK},
		{one, dot(2, 1), api.ID{}, of([]int{1}), reg(of([]int{1, 1}), at(2, 1, api.ID{})), api.OK},
		{reg(of(nil)), dot(2, 3), idA, of([]int{4}, dot(2, 2)), reg(of([]int{4}, dot(2, 2), dot(2, 3)), at(2, 3, idA)), api.OK},
		{reg(of([]int{0, 1}), at(2, 1, idB)), dot(1, 1), idA, of(nil), reg(of([]int{1, 1}), at(1, 1, idA), at(2, 1, idB)), api.OK},
		{reg(of([]int{1, 0, 1}), at(1, 1, idA), at(3, 1, idB)), dot(2, 1), idC, of([]int{0, 0, 1}), reg(of([]int{1, 1, 1}), at(1, 1, idA), at(2, 1, idC)), api.OK},
		{reg(of([]int{1, 0, 1}), at(1, 1, idA), at(3, 1, idB)), dot(2, 1), idC, of([]int{1}), reg(of([]int{1, 1, 1}), at(2, 1, idC), at(3, 1, idB)), api.OK},
		{reg(of([]int{1})), dot(1, 1), idA, of(nil), reg(of(nil)), api.ErrDouble},
		{one, dot(2, 1), idB, of([]int{1, 1}), reg(of(nil)), api.ErrDouble},
		{one, dot(2, 2), idB, of([]int{1}, dot(2, 2)), reg(of(nil)), api.ErrDouble},
		{reg(of([]int{1}, dot(2, 2)), at(1, 1, idA)), dot(2, 2), idB, of([]int{1}), reg(of(nil)), api.ErrDouble},
		{one, dot(17, 1), idB, of(nil), reg(of(nil)), api.ErrRange},
		{one, dot(1, lastNumber+1), idB, of(nil), reg(of(nil)), api.ErrRange},
		{one, dot(1, lastNumber), idB, of(nil), reg(of([]int{1}, dot(1, lastNumber)), at(1, 1, idA), at(1, lastNumber, idB)), api.OK},
		{one, dot(1, 0), idB, of(nil), reg(of(nil)), api.ErrRange},
		{reg(of(nil), at(1, 1, idA)), dot(0, 1), idB, of([]int{-1}), reg(of(nil)), api.ErrArg},
		{one, dot(0, 1), idB, of([]int{0}), reg(of(nil)), api.ErrRange},
		{one, dot(1, 1), idB, of([]int{0}), reg(of(nil)), api.ErrArg},
		{one, dot(2, 1), idB, of([]int{-1}), reg(of(nil)), api.ErrRange},
		{one, dot(1, 1), idB, of(nil, every(3, 2, 2, mostDots+1)...), reg(of(nil)), api.ErrFull},
		{reg(of(nil, full...)), dot(3, 2), idB, of(nil, every(4, 2, 2, 1)...), reg(of(nil)), api.ErrDouble},
		{reg(of(nil, full...)), dot(4, 2), idB, of(nil, every(4, 2, 2, 1)...), reg(of(nil)), api.ErrDouble},
		{reg(of(nil, full...)), dot(5, 1), idB, of(nil, every(4, 2, 2, 1)...), reg(of(nil)), api.ErrFull},
		{reg(of(nil, full...)), dot(5, 2), idB, of(nil), reg(of(nil)), api.ErrFull},
		{reg(of(nil, full...)), dot(5, 1), idB, of(nil), reg(of([]int{4: 1}, full...), at(5, 1, idB)), api.OK},
		{reg(of(nil, full...)), dot(3, 1), idB, of(nil), reg(of([]int{0, 0, 2}, full[1:]...), at(3, 1, idB)), api.OK},
	} {
		got, err := register.Write(x.r, x.d, x.id, x.context)
		result(t, "Write", got, err, x.want, x.err)
		checkWrite(t, x.r, x.d, x.id, x.context)
	}
}

// P16.2: the examples of Clear, and each error.
func TestExamplesOfClear(t *testing.T) {
	one := reg(of([]int{1}), at(1, 1, idA))
	three := reg(of([]int{3}, dot(2, 2)), at(1, 1, idA), at(1, 3, idB), at(2, 2, idA))
	for _, x := range []struct {
		r       api.Register
		context api.Cloud
		want    api.Register
		err     api.Errno
	}{
		{one, of([]int{1}), reg(of([]int{1})), api.OK},
		{one, of(nil), one, api.OK},
		{reg(of(nil)), of(nil), reg(of(nil)), api.OK},
		{reg(of(nil)), of([]int{2}, dot(3, 4)), reg(of([]int{2}, dot(3, 4))), api.OK},
		{one, of([]int{0, 1}), reg(of([]int{1, 1}), at(1, 1, idA)), api.OK},
		{three, of([]int{1}), reg(three.Seen, at(1, 3, idB), at(2, 2, idA)), api.OK},
		{three, of(nil, dot(1, 3)), reg(three.Seen, at(1, 1, idA), at(2, 2, idA)), api.OK},
		{three, of(nil, dot(2, 2), dot(2, 3)), reg(of([]int{3}, dot(2, 2), dot(2, 3)), at(1, 1, idA), at(1, 3, idB)), api.OK},
		{three, of([]int{1}, dot(1, 3)), reg(three.Seen, at(2, 2, idA)), api.OK},
		{three, of([]int{2, 1}), reg(of([]int{3, 2}), at(1, 3, idB), at(2, 2, idA)), api.OK},
		{three, three.Seen, reg(three.Seen), api.OK},
		{reg(of(nil), at(1, 1, idA)), of([]int{-1}), reg(of(nil)), api.ErrArg},
		{reg(of([]int{-1})), of([]int{0}), reg(of(nil)), api.ErrRange},
		{one, of([]int{0}), reg(of(nil)), api.ErrArg},
		{one, of([]int{1, -1}), reg(of(nil)), api.ErrRange},
		{one, of(nil, every(1, 2, 2, mostDots+1)...), reg(of(nil)), api.ErrFull},
		{reg(of(nil, every(1, 2, 2, mostDots)...)), of(nil, dot(2, 2)), reg(of(nil)), api.ErrFull},
	} {
		got, err := register.Clear(x.r, x.context)
		result(t, "Clear", got, err, x.want, x.err)
		checkClear(t, x.r, x.context)
	}
}

// P16.3: the examples of Join, and each error.
func TestExamplesOfJoin(t *testing.T) {
	one, two, none := reg(of([]int{1}), at(1, 1, idA)), reg(of([]int{0, 1}), at(2, 1, idB)), reg(of([]int{1}))
	full, other := reg(of(nil, every(1, 2, 2, mostDots)...)), reg(of(nil, dot(2, 2)))
	for _, x := range []struct {
		a, b, want api.Register
		err        api.Errno
	}{
		{one, two, reg(of([]int{1, 1}), at(1, 1, idA), at(2, 1, idB)), api.OK},
		{one, none, none, api.OK}, {none, one, none, api.OK},
		{one, reg(of([]int{1}), at(1, 1, idB)), reg(of(nil)), api.ErrConflict},
		{one, one, one, api.OK}, {none, none, none, api.OK}, {reg(of(nil)), reg(of(nil)), reg(of(nil)), api.OK}, {one, reg(of(nil)), one, api.OK}, {reg(of(nil)), one, one, api.OK},
		{reg(of([]int{1, 1}), at(1, 1, idA), at(2, 1, idB)), none, reg(of([]int{1, 1}), at(2, 1, idB)), api.OK},
		{reg(of([]int{1, 1}), at(1, 1, idA), at(2, 1, idB)), reg(of([]int{1, 2}), at(1, 1, idA), at(2, 2, idC)), reg(of([]int{1, 2}), at(1, 1, idA), at(2, 2, idC)), api.OK},
		{reg(of([]int{3}), at(1, 1, idA), at(1, 3, idA)), reg(of([]int{2}), at(1, 1, idA), at(1, 2, idA)), reg(of([]int{3}), at(1, 1, idA), at(1, 3, idA)), api.OK},
		{reg(of([]int{2}), at(1, 1, idA), at(1, 2, idB)), reg(of([]int{2}), at(1, 1, idA), at(1, 2, idC)), reg(of(nil)), api.ErrConflict},
		{reg(of([]int{2}), at(1, 1, idA)), reg(of([]int{2}), at(1, 2, idC)), reg(of([]int{2})), api.OK},
		{full, other, reg(of(nil)), api.ErrFull}, {other, full, reg(of(nil)), api.ErrFull}, {full, full, full, api.OK},
		{reg(full.Seen, at(1, 2, idA)), reg(of(nil, dot(1, 2), dot(2, 2)), at(1, 2, idB)), reg(of(nil)), api.ErrConflict},
		{reg(full.Seen, at(1, 2, idA)), reg(of(nil, dot(1, 2), dot(2, 2)), at(1, 2, idA)), reg(of(nil)), api.ErrFull},
		{reg(of([]int{-1})), reg(of([]int{0})), reg(of(nil)), api.ErrRange}, {reg(of([]int{0})), reg(of([]int{-1})), reg(of(nil)), api.ErrArg}, {one, reg(of([]int{-1})), reg(of(nil)), api.ErrRange},
		{one, reg(of([]int{1, 1}), at(2, 1, idB), at(1, 1, idB)), reg(of(nil)), api.ErrArg}, {reg(of(nil), at(1, 1, idB)), one, reg(of(nil)), api.ErrArg}, {reg(of(nil, every(1, 2, 2, mostDots+1)...)), one, reg(of(nil)), api.ErrFull},
	} {
		got, err := register.Join(x.a, x.b)
		result(t, "Join", got, err, x.want, x.err)
		checkJoin(t, x.a, x.b)
	}
}

// P16.1: all short registers, in their form or not.
func TestShortRegisters(t *testing.T) {
	clouds := []api.Cloud{of(nil), of([]int{1}), of([]int{2}), of([]int{0, 1}), of([]int{1, 2}), of([]int{3}, dot(2, 2)), of(nil, dot(1, 2)), of(nil, dot(1, 3), dot(2, 2)), of([]int{1, 0}), of(nil, dot(1, 1)), of([]int{-1}), of([]int{2}, dot(0, 1))}
	dots := append(universe(2, 3), dot(0, 1), dot(1, 0), dot(17, 1))
	var things []api.Held
	for _, d := range dots {
		things = append(things, api.Held{Dot: d, ID: idA}, api.Held{Dot: d, ID: idB})
	}
	for _, held := range lists(3, things...) {
		for _, c := range clouds {
			checkOne(t, reg(c, held...))
		}
	}
}

// twoIDs are the digests with which each dot may be held.
func twoIDs(int) []api.ID { return []api.ID{idB, idA} }

// P16.2: all registers over a few dots, written and cleared by somebody who had seen any of them, with each dot.
func TestShortWrites(t *testing.T) {
	for _, dots := range [][]api.Dot{universe(1, 4), universe(2, 2), universe(4, 1), {dot(1, 2), dot(1, 4), dot(16, 1), dot(16, lastNumber)}} {
		contexts := subsets(dots)
		asked := append(slices.Clone(dots), dot(1, 5), dot(3, 1), dot(9, lastNumber), dot(0, 1), dot(1, 0), dot(17, 1), dot(2, lastNumber+1))
		for _, r := range registers(dots, twoIDs) {
			checkOne(t, r)
			for _, c := range contexts {
				checkClear(t, r, c)
				for _, d := range asked {
					checkWrite(t, r, d, idC, c)
				}
			}
		}
	}
}

// P16.3: all registers over a few dots, in pairs, with digests that are alike or not.
func TestShortJoins(t *testing.T) {
	for _, dots := range [][]api.Dot{universe(1, 3), universe(2, 2), universe(3, 1), {dot(1, 1), dot(2, 3), dot(16, 2)}} {
		all := registers(dots, twoIDs)
		for _, a := range all {
			for _, b := range all {
				checkJoin(t, a, b)
			}
		}
	}
}

// P16.2, P16.3: registers and clouds that are in no form, for each reason, at each place: the first one's error counts first.
func TestWrongOnes(t *testing.T) {
	clouds := []api.Cloud{of(nil), of([]int{2}), of([]int{1}, dot(1, 3)), of([]int{-1}), of(make([]int, 17)), of([]int{0}), of(nil, dot(1, 1)), of(nil, dot(17, 2)), of(nil, every(1, 2, 2, mostDots+1)...)}
	var all []api.Register
	for _, c := range clouds {
		for _, held := range [][]api.Held{nil, {at(1, 1, idA)}, {at(1, 1, idB)}, {at(1, 3, idA)}, {at(1, 1, idA), at(1, 2, idB)}, {at(1, 2, idA), at(1, 1, idB)}, {at(1, 1, idA), at(1, 1, idA)}, {at(1, 0, idA)}, {at(0, 1, idA)}} {
			all = append(all, reg(c, held...))
		}
	}
	asked := []api.Dot{dot(1, 1), dot(1, 4), dot(2, 1), dot(0, 1), dot(1, 0), dot(17, 1), dot(1, lastNumber+1), dot(least, 1), dot(1, least), dot(greatest, greatest)}
	for _, a := range all {
		checkOne(t, a)
		for _, b := range all {
			checkJoin(t, a, b)
		}
		for _, c := range clouds {
			checkClear(t, a, c)
			for _, d := range asked {
				checkWrite(t, a, d, idB, c)
			}
		}
	}
}
