package orset_test

import (
	"slices"
	"testing"

	"entrepot/api"
	"entrepot/orset"
)

// P17.1: the examples, and each reason for which a set is not in its form.
func TestExamplesOfCheck(t *testing.T) {
	two := []api.Held{at(1, 1, idA), at(2, 1, idB)}
	for _, x := range []struct {
		s    api.Set
		want api.Errno
	}{
		{set(of(nil)), api.OK}, {set(of([]int{}), []api.Held{}...), api.OK}, {set(of([]int{1}), at(1, 1, idA)), api.OK}, {set(of([]int{1})), api.OK},
		{set(of([]int{1, 1}), two...), api.OK}, {set(of([]int{5}, dot(2, 2)), at(1, 2, idA), at(1, 4, idA), at(2, 2, idA)), api.OK},
		{set(of(nil, dot(16, lastNumber)), at(16, lastNumber, idB)), api.OK}, {set(of([]int{lastNumber}), at(1, lastNumber, idB)), api.OK},
		{set(of([]int{20, 20}), at(1, 9, idA), at(1, 10, idB), at(2, 3, idA)), api.OK},
		{set(of(nil), at(1, 1, idA)), api.ErrArg}, {set(of([]int{1}), two...), api.ErrArg}, {set(of([]int{0, 1}), two...), api.ErrArg}, {set(of([]int{1}), at(1, 2, idA)), api.ErrArg},
		{set(of([]int{1, 1}), two[1], two[0]), api.ErrArg}, {set(of([]int{1, 1}), two[0], two[0]), api.ErrArg}, {set(of([]int{1, 1}), two[0], at(1, 1, idB)), api.ErrArg},
		{set(of([]int{9, 9}), at(1, 1, idA), at(1, 2, idA), at(1, 2, idB), at(2, 1, idA)), api.ErrArg}, {set(of([]int{9, 9}), at(1, 3, idA), at(1, 2, idB), at(2, 1, idA)), api.ErrArg},
		{set(of([]int{9, 9}), at(1, 3, idA), at(2, 1, idA), at(2, 1, idA)), api.ErrArg}, {set(of([]int{9, 9}), at(2, 1, idA), at(1, 2, idA)), api.ErrArg},
		{set(of([]int{1}), at(1, 0, idA)), api.ErrArg}, {set(of([]int{1}), at(1, -1, idA)), api.ErrArg}, {set(of([]int{1}), at(0, 1, idA)), api.ErrArg}, {set(of([]int{1}), at(-1, 1, idA)), api.ErrArg},
		{set(of([]int{1}), at(17, 1, idA)), api.ErrArg}, {set(of([]int{lastNumber}), at(1, lastNumber+1, idA)), api.ErrArg}, {set(of([]int{1}), at(least, greatest, idA)), api.ErrArg}, {set(of([]int{1}), api.Held{}), api.ErrArg},
		{set(of([]int{2}, dot(1, 4)), at(1, 3, idA)), api.ErrArg}, {set(of([]int{2}, dot(1, 4)), at(1, 5, idA)), api.ErrArg}, {set(of([]int{2}, dot(1, 4)), at(2, 4, idA)), api.ErrArg}, {set(of([]int{2}, dot(1, 4)), at(1, 4, idA)), api.OK},
		{set(of([]int{0})), api.ErrArg}, {set(of([]int{1, 0}), two[0]), api.ErrArg}, {set(of(nil, dot(1, 1)), two[0]), api.ErrArg}, {set(of(nil, dot(1, 3), dot(1, 2)), at(1, 2, idA)), api.ErrArg},
		{set(of([]int{-1})), api.ErrRange}, {set(of([]int{lastNumber + 1}), two[0]), api.ErrRange}, {set(of(make([]int, 17))), api.ErrRange}, {set(of(nil, dot(17, 2)), at(17, 2, idA)), api.ErrRange}, {set(of(nil, dot(1, 0)), at(1, 0, idA)), api.ErrRange},
		{set(of([]int{-1}), two[1], two[0]), api.ErrRange}, {set(of(nil, every(1, 2, 2, mostDots+1)...), two[1], two[0]), api.ErrFull}, {set(of(nil, every(1, 2, 2, mostDots+1)...), at(1, 2, idA)), api.ErrFull}, {set(of(nil, every(1, 2, 2, mostDots)...), at(1, 2, idA)), api.OK},
	} {
		if got := orset.Check(x.s); got != x.want {
			t.Errorf("Check(%v) = %v, not %v", brief(x.s), got, x.want)
		}
		checkOne(t, x.s)
	}
}

// P17.1: digests that come in any order, often, or in no form, are told once, in their order, and are there.
func TestExamplesOfIDs(t *testing.T) {
	seen := of([]int{4, 4})
	for _, x := range []struct {
		s    api.Set
		want []api.ID
	}{
		{set(of([]int{1, 1}), at(1, 1, api.ID{7}), at(2, 1, api.ID{7})), []api.ID{{7}}},
		{set(of([]int{1, 1}), at(1, 1, idB), at(2, 1, idA)), []api.ID{idA, idB}}, {set(of([]int{1, 1}), at(1, 1, idA), at(2, 1, idB)), []api.ID{idA, idB}},
		{set(of([]int{1}), at(1, 1, idD)), []api.ID{idD}}, {set(of(nil)), nil}, {set(seen), nil},
		{set(seen, holding(universe(2, 4), idD, idB, idC, idA)...), []api.ID{idA, idB, idC, idD}}, {set(seen, holding(universe(2, 4), idB)...), []api.ID{idB}},
		{set(seen, at(1, 1, idA), at(1, 2, idB), at(2, 1, idA)), []api.ID{idA, idB}},
		{set(seen, at(1, 1, idB), at(1, 2, idA), at(1, 3, idB), at(2, 1, idA), at(2, 2, idC)), []api.ID{idA, idB, idC}},
		{set(seen, at(1, 1, idA), at(1, 2, idA), at(2, 1, api.ID{31: 1})), []api.ID{idA, {31: 1}}},
		{set(seen, at(1, 1, api.ID{31: 255}), at(1, 2, api.ID{128}), at(2, 1, api.ID{0, 255}), at(2, 2, api.ID{127})), []api.ID{{31: 255}, {0, 255}, {127}, {128}}},
		{set(of([]int{1}), at(1, 1, idB), at(2, 1, idA)), nil}, {set(seen, at(2, 1, idB), at(1, 1, idA)), nil}, {set(seen, at(1, 1, idB), at(1, 1, idB)), nil},
		{set(of([]int{1, 1, 0}), at(1, 1, idB)), nil}, {set(of([]int{1, 1, -1}), at(1, 1, idB)), nil}, {set(of([]int{1, 1}, dot(17, 1)), at(1, 1, idB)), nil},
		{set(of([]int{1, 1}, every(3, 2, 1, mostDots+1)...), at(1, 1, idB)), nil}, {set(of([]int{1, 1}, every(3, 2, 1, mostDots)...), at(1, 1, idB), at(2, 1, idA)), []api.ID{idA, idB}},
	} {
		if got := orset.IDs(x.s); !slices.Equal(got, x.want) {
			t.Errorf("IDs(%v) = %v, not %v", brief(x.s), got, x.want)
		}
		for _, id := range x.want {
			if !orset.Has(x.s, id) || orset.Has(x.s, api.ID{1, 127, 4}) {
				t.Errorf("Has(%v)", brief(x.s))
			}
		}
		checkOne(t, x.s)
	}
}

// P17.2: the examples of Add, and each error.
func TestExamplesOfAdd(t *testing.T) {
	one, none := set(of([]int{1}), at(1, 1, idA)), set(of(nil))
	full := every(3, 2, 2, mostDots)
	for _, x := range []struct {
		s    api.Set
		d    api.Dot
		id   api.ID
		want api.Set
		err  api.Errno
	}{
		{none, dot(1, 1), idA, one, api.OK},
		{one, dot(1, 1), idB, none, api.ErrDouble},
		{one, dot(1, 1), idA, none, api.ErrDouble},
		{one, dot(2, 1), idA, set(of([]int{1, 1}), at(1, 1, idA), at(2, 1, idA)), api.OK},
		{one, dot(2, 1), idB, set(of([]int{1, 1}), at(1, 1, idA), at(2, 1, idB)), api.OK},
		{set(of([]int{0, 1}), at(2, 1, idB)), dot(1, 1), idA, set(of([]int{1, 1}), at(1, 1, idA), at(2, 1, idB)), api.OK},
		{set(of([]int{1, 0, 1}), at(1, 1, idA), at(3, 1, idB)), dot(2, 1), idC, set(of([]int{1, 1, 1}), at(1, 1, idA), at(2, 1, idC), at(3, 1, idB)), api.OK},
		{set(of([]int{1}, dot(1, 3)), at(1, 3, idA)), dot(1, 2), idA, set(of([]int{3}), at(1, 2, idA), at(1, 3, idA)), api.OK},
		{one, dot(1, 3), idA, set(of([]int{1}, dot(1, 3)), at(1, 1, idA), at(1, 3, idA)), api.OK},
		{set(of([]int{1})), dot(1, 1), idA, none, api.ErrDouble}, {set(of(nil, dot(2, 2))), dot(2, 2), idA, none, api.ErrDouble}, {set(of([]int{9})), dot(1, 4), idA, none, api.ErrDouble},
		{one, dot(17, 1), idB, none, api.ErrRange}, {one, dot(0, 1), idB, none, api.ErrRange}, {one, dot(1, 0), idB, none, api.ErrRange}, {one, dot(1, lastNumber+1), idB, none, api.ErrRange}, {none, api.Dot{}, idB, none, api.ErrRange},
		{one, dot(1, lastNumber), idB, set(of([]int{1}, dot(1, lastNumber)), at(1, 1, idA), at(1, lastNumber, idB)), api.OK}, {none, dot(16, 1), idB, set(of([]int{15: 1}), at(16, 1, idB)), api.OK},
		{set(of(nil), at(1, 1, idA)), dot(0, 1), idB, none, api.ErrArg}, {set(of([]int{-1})), dot(1, 1), idB, none, api.ErrRange}, {set(of([]int{0})), dot(0, 1), idB, none, api.ErrArg}, {set(of(nil, every(1, 2, 2, mostDots+1)...)), dot(0, 1), idB, none, api.ErrFull},
		{set(of(nil, full...)), dot(3, 2), idB, none, api.ErrDouble}, {set(of(nil, full...)), dot(17, 1), idB, none, api.ErrRange}, {set(of(nil, full...)), dot(5, 2), idB, none, api.ErrFull}, {set(of(nil, full...)), dot(3, 5), idB, none, api.ErrFull},
		{set(of(nil, full...)), dot(5, 1), idB, set(of([]int{4: 1}, full...), at(5, 1, idB)), api.OK},
		{set(of(nil, full...)), dot(3, 1), idB, set(of([]int{0, 0, 2}, full[1:]...), at(3, 1, idB)), api.OK},
		{set(of(nil, full[1:]...)), dot(9, 2), idB, set(of(nil, append(slices.Clone(full[1:]), dot(9, 2))...), at(9, 2, idB)), api.OK},
	} {
		got, err := orset.Add(x.s, x.d, x.id)
		result(t, "Add", got, err, x.want, x.err)
		checkAdd(t, x.s, x.d, x.id)
	}
}

// P17.2: the examples of Drop, and each error.
func TestExamplesOfDrop(t *testing.T) {
	none := set(of(nil))
	three := set(of([]int{3}, dot(2, 2)), at(1, 1, idA), at(1, 3, idB), at(2, 2, idA))
	for _, x := range []struct {
		s    api.Set
		id   api.ID
		want api.Set
		err  api.Errno
	}{
		{set(of([]int{1, 1}), at(1, 1, api.ID{7}), at(2, 1, api.ID{7})), api.ID{7}, set(of([]int{1, 1})), api.OK},
		{none, api.ID{7}, none, api.ErrManifest}, {none, idA, none, api.ErrManifest}, {set(of([]int{1})), idA, none, api.ErrManifest},
		{three, idA, set(three.Seen, at(1, 3, idB)), api.OK}, {three, idB, set(three.Seen, at(1, 1, idA), at(2, 2, idA)), api.OK},
		{three, idC, none, api.ErrManifest}, {three, api.ID{31: 1}, none, api.ErrManifest}, {three, api.ID{1, 1}, none, api.ErrManifest},
		{set(of(nil), at(1, 1, idA)), idA, none, api.ErrArg}, {set(of(nil), at(1, 1, idA)), idB, none, api.ErrArg}, {set(of([]int{-1})), idB, none, api.ErrRange}, {set(of(nil, every(1, 2, 2, mostDots+1)...)), idA, none, api.ErrFull},
		{set(of([]int{2}), at(1, 2, idA), at(1, 1, idA)), idA, none, api.ErrArg},
	} {
		got, err := orset.Drop(x.s, x.id)
		result(t, "Drop", got, err, x.want, x.err)
		checkDrop(t, x.s, x.id)
	}
}

// P17.3: the examples of Join, and each error.
func TestExamplesOfJoin(t *testing.T) {
	one, two, none, empty := set(of([]int{1}), at(1, 1, idA)), set(of([]int{0, 1}), at(2, 1, idA)), set(of([]int{1})), set(of(nil))
	both := set(of([]int{1, 1}), at(1, 1, idA), at(2, 1, idA))
	full, other := set(of(nil, every(1, 2, 2, mostDots)...)), set(of(nil, dot(2, 2)))
	for _, x := range []struct {
		a, b, want api.Set
		err        api.Errno
	}{
		{one, none, none, api.OK}, {none, one, none, api.OK}, {one, two, both, api.OK}, {two, one, both, api.OK},
		{both, none, set(of([]int{1, 1}), at(2, 1, idA)), api.OK}, {none, both, set(of([]int{1, 1}), at(2, 1, idA)), api.OK},
		{one, set(of([]int{1}), at(1, 1, idB)), empty, api.ErrConflict}, {both, set(of([]int{0, 1}), at(2, 1, idB)), empty, api.ErrConflict},
		{one, one, one, api.OK}, {none, none, none, api.OK}, {empty, empty, empty, api.OK}, {one, empty, one, api.OK}, {empty, one, one, api.OK}, {both, both, both, api.OK},
		{both, set(of([]int{1, 2}), at(1, 1, idA), at(2, 2, idC)), set(of([]int{1, 2}), at(1, 1, idA), at(2, 2, idC)), api.OK},
		{set(of([]int{3}), at(1, 1, idA), at(1, 3, idA)), set(of([]int{2}), at(1, 1, idA), at(1, 2, idA)), set(of([]int{3}), at(1, 1, idA), at(1, 3, idA)), api.OK},
		{set(of([]int{2}), at(1, 1, idA)), set(of([]int{2}), at(1, 2, idC)), set(of([]int{2})), api.OK},
		{full, other, empty, api.ErrFull}, {other, full, empty, api.ErrFull}, {full, full, full, api.OK},
		{set(full.Seen, at(1, 2, idA)), set(of(nil, dot(1, 2), dot(2, 2)), at(1, 2, idB)), empty, api.ErrConflict},
		{set(full.Seen, at(1, 2, idA)), set(of(nil, dot(1, 2), dot(2, 2)), at(1, 2, idA)), empty, api.ErrFull},
		{set(of([]int{-1})), set(of([]int{0})), empty, api.ErrRange}, {set(of([]int{0})), set(of([]int{-1})), empty, api.ErrArg}, {one, set(of([]int{-1})), empty, api.ErrRange},
		{one, set(of([]int{1, 1}), at(2, 1, idB), at(1, 1, idB)), empty, api.ErrArg}, {set(of(nil), at(1, 1, idB)), one, empty, api.ErrArg}, {set(of(nil, every(1, 2, 2, mostDots+1)...)), one, empty, api.ErrFull},
	} {
		got, err := orset.Join(x.a, x.b)
		result(t, "Join", got, err, x.want, x.err)
		checkJoin(t, x.a, x.b)
	}
}

// P17.4: the examples of Delta, and each error.
func TestExamplesOfDelta(t *testing.T) {
	two := set(of([]int{1, 1}), at(1, 1, idA), at(2, 1, idB))
	none := change(of(nil), nil)
	for _, x := range []struct {
		s     api.Set
		since api.Cloud
		want  api.Change
		err   api.Errno
	}{
		{two, of([]int{1}), change(two.Seen, []api.Dot{dot(1, 1)}, at(2, 1, idB)), api.OK},
		{two, of([]int{0, 1}), change(two.Seen, []api.Dot{dot(2, 1)}, at(1, 1, idA)), api.OK},
		{two, of(nil), change(two.Seen, nil, two.Held...), api.OK}, {two, two.Seen, change(two.Seen, universe(2, 1)), api.OK}, {two, of([]int{9, 9, 9}, dot(4, 2)), change(two.Seen, universe(2, 1)), api.OK},
		{two, of(nil, dot(1, 2), dot(2, 2)), change(two.Seen, nil, two.Held...), api.OK}, {set(of(nil)), of(nil), none, api.OK}, {set(of(nil)), of([]int{3}), none, api.OK}, {set(of([]int{3})), of(nil), change(of([]int{3}), nil), api.OK},
		{set(of([]int{4}), at(1, 2, idA), at(1, 4, idA)), of(nil, dot(1, 2)), change(of([]int{4}), []api.Dot{dot(1, 2)}, at(1, 4, idA)), api.OK},
		{set(of(nil, dot(1, 2), dot(1, 4)), at(1, 2, idA), at(1, 4, idA)), of([]int{3}), change(of(nil, dot(1, 2), dot(1, 4)), []api.Dot{dot(1, 2)}, at(1, 4, idA)), api.OK},
		{set(of(nil), at(1, 1, idA)), of([]int{-1}), none, api.ErrArg}, {set(of([]int{-1})), of([]int{0}), none, api.ErrRange}, {two, of([]int{0}), none, api.ErrArg}, {two, of([]int{-1}), none, api.ErrRange}, {two, of(nil, every(1, 2, 2, mostDots+1)...), none, api.ErrFull},
	} {
		got, err := orset.Delta(x.s, x.since)
		resultChange(t, "Delta", got, err, x.want, x.err)
		checkDelta(t, x.s, x.since)
	}
}

// P17.4: the examples of Apply, and each error.
func TestExamplesOfApply(t *testing.T) {
	one, none, empty := set(of([]int{1}), at(1, 1, idA)), set(of([]int{1})), set(of(nil))
	told := change(of([]int{1, 1}), []api.Dot{dot(1, 1)}, at(2, 1, idB))
	full := every(3, 2, 2, mostDots)
	for _, x := range []struct {
		s    api.Set
		c    api.Change
		want api.Set
		err  api.Errno
	}{
		{one, told, set(of([]int{1, 1}), at(1, 1, idA), at(2, 1, idB)), api.OK}, {none, told, set(of([]int{1, 1}), at(2, 1, idB)), api.OK}, {empty, told, set(of([]int{1, 1}), at(2, 1, idB)), api.OK},
		{set(of([]int{0, 1})), told, set(of([]int{1, 1})), api.OK}, {set(of([]int{0, 1}), at(2, 1, idB)), told, set(of([]int{1, 1}), at(2, 1, idB)), api.OK}, {set(of([]int{0, 1}), at(2, 1, idA)), told, empty, api.ErrConflict},
		{one, change(of([]int{1}), nil), none, api.OK}, {one, change(of(nil), nil), one, api.OK}, {one, change(of([]int{0, 1}), nil), set(of([]int{1, 1}), at(1, 1, idA)), api.OK}, {empty, change(of(nil), nil), empty, api.OK},
		{one, change(of([]int{1}), nil, at(1, 1, idA)), one, api.OK}, {one, change(of([]int{1}), nil, at(1, 1, idB)), empty, api.ErrConflict}, {none, change(of([]int{1}), nil, at(1, 1, idB)), none, api.OK},
		{set(of([]int{3}), holding(universe(1, 3), idA)...), change(of([]int{4}), []api.Dot{dot(1, 1), dot(1, 4)}, at(1, 3, idA)), set(of([]int{4}), at(1, 1, idA), at(1, 3, idA)), api.OK},
		{set(of([]int{0, 1}), at(2, 1, idC)), change(of([]int{1, 0, 1}), nil, at(1, 1, idA), at(3, 1, idB)), set(of([]int{1, 1, 1}), at(1, 1, idA), at(2, 1, idC), at(3, 1, idB)), api.OK},
		{one, change(of([]int{1}), []api.Dot{dot(1, 1)}, at(1, 1, idA)), empty, api.ErrArg}, {one, change(of([]int{1}), []api.Dot{dot(1, 1)}, at(1, 1, idB)), empty, api.ErrArg},
		{one, change(of(nil), []api.Dot{dot(1, 1)}), empty, api.ErrArg}, {one, change(of(nil), nil, at(1, 1, idA)), empty, api.ErrArg}, {one, change(of([]int{2}), []api.Dot{dot(1, 2), dot(1, 1)}), empty, api.ErrArg}, {one, change(of([]int{2}), []api.Dot{dot(1, 2), dot(1, 2)}), empty, api.ErrArg},
		{one, change(of([]int{2}), nil, at(1, 2, idA), at(1, 1, idA)), empty, api.ErrArg}, {one, change(of([]int{2}), nil, at(1, 2, idA), at(1, 2, idB)), empty, api.ErrArg}, {one, change(of([]int{2}), []api.Dot{{}}), empty, api.ErrArg}, {one, change(of([]int{2}), nil, at(0, 1, idA)), empty, api.ErrArg},
		{one, change(of([]int{0}), nil), empty, api.ErrArg}, {one, change(of([]int{-1}), []api.Dot{{}}), empty, api.ErrRange}, {one, change(of(nil, every(1, 2, 2, mostDots+1)...), nil), empty, api.ErrFull},
		{set(of(nil), at(1, 1, idA)), change(of([]int{-1}), nil), empty, api.ErrArg}, {set(of([]int{-1})), change(of([]int{0}), nil), empty, api.ErrRange},
		{set(of([]int{1}, full...), at(1, 1, idA)), change(of([]int{1}, dot(4, 2)), nil, at(1, 1, idB)), empty, api.ErrConflict}, {set(of([]int{1}, full...), at(1, 1, idA)), change(of([]int{1}, dot(4, 2)), nil, at(1, 1, idA)), empty, api.ErrFull},
		{set(of([]int{1}, full...), at(1, 1, idA)), change(of([]int{1, 1}), nil, at(2, 1, idB)), set(of([]int{1, 1}, full...), at(2, 1, idB)), api.OK},
	} {
		got, err := orset.Apply(x.s, x.c)
		result(t, "Apply", got, err, x.want, x.err)
		checkApply(t, x.s, x.c)
	}
}

// P17.1: all short sets, in their form or not.
func TestShortSets(t *testing.T) {
	clouds := []api.Cloud{of(nil), of([]int{1}), of([]int{2}), of([]int{0, 1}), of([]int{1, 2}), of([]int{3}, dot(2, 2)), of(nil, dot(1, 2)), of(nil, dot(1, 3), dot(2, 2)), of([]int{1, 0}), of(nil, dot(1, 1)), of([]int{-1}), of([]int{2}, dot(0, 1))}
	for _, held := range lists(3, append(holding(append(universe(2, 3), dot(0, 1), dot(1, 0), dot(17, 1)), idA), holding(universe(2, 3), idB)...)...) {
		for _, c := range clouds {
			checkOne(t, set(c, held...))
		}
	}
}

// few are lists of a few dots, with gaps and without.
func few() [][]api.Dot {
	return [][]api.Dot{universe(1, 4), universe(2, 2), universe(4, 1), {dot(1, 2), dot(1, 4), dot(16, 1), dot(16, lastNumber)}}
}

// P17.1, P17.2: all sets over a few dots, with each digest added with each dot, and with each digest dropped.
func TestShortAdds(t *testing.T) {
	for _, dots := range few() {
		asked := append(slices.Clone(dots), dot(1, 5), dot(3, 1), dot(9, lastNumber), dot(0, 1), dot(1, 0), dot(17, 1), dot(2, lastNumber+1))
		for _, s := range sets(dots, twoIDs) {
			checkOne(t, s)
			for _, id := range []api.ID{idA, idB, idC, {31: 1}, {1, 31: 1}} {
				checkDrop(t, s, id)
				for _, d := range asked {
					checkAdd(t, s, d, id)
				}
			}
		}
	}
}

// P17.3: all sets over a few dots, in pairs, with digests that are alike or not.
func TestShortJoins(t *testing.T) {
	for _, dots := range [][]api.Dot{universe(1, 3), universe(2, 2), universe(3, 1), {dot(1, 1), dot(2, 3), dot(16, 2)}} {
		all := sets(dots, twoIDs)
		for _, a := range all {
			for _, b := range all {
				checkJoin(t, a, b)
			}
		}
	}
}

// P17.4: what each set over a few dots tells to whoever has seen any of them.
func TestShortDeltas(t *testing.T) {
	for _, dots := range few() {
		since := clouds(append(slices.Clone(dots), dot(5, 1), dot(6, 2)))
		for _, s := range sets(dots, twoIDs) {
			for _, c := range since {
				checkDelta(t, s, c)
			}
		}
	}
}

// P17.4: all sets over a few dots, changed by all changes over these.
func TestShortChanges(t *testing.T) {
	for _, dots := range [][]api.Dot{universe(1, 3), universe(3, 1), {dot(1, 1), dot(1, 3), dot(16, 2)}} {
		all := changes(dots, twoIDs)
		for _, s := range sets(dots, twoIDs) {
			for _, c := range all {
				checkApply(t, s, c)
			}
		}
	}
	all := changes(universe(2, 2), oneID)
	for _, s := range sets(universe(2, 2), twoIDs) {
		for _, c := range all {
			checkApply(t, s, c)
		}
	}
}

// P17.4: sets, changed by short changes that are in their form or not.
func TestShortWrongChanges(t *testing.T) {
	clouds := []api.Cloud{of(nil), of([]int{1}), of([]int{2, 1}), of(nil, dot(1, 2)), of([]int{1}, dot(2, 2)), of([]int{1, 0}), of(nil, dot(1, 1)), of([]int{-1})}
	some := []api.Set{set(of(nil)), set(of([]int{2, 1}), at(1, 1, idA), at(2, 1, idB)), set(of(nil), at(1, 1, idA)), set(of([]int{lastNumber + 1}))}
	dots := []api.Dot{dot(1, 1), dot(1, 2), dot(2, 1), dot(2, 2), dot(0, 1), dot(1, 0), dot(17, 1)}
	for _, kept := range lists(2, dots...) {
		for _, added := range lists(2, append(holding(dots, idA), at(1, 1, idB))...) {
			for _, c := range clouds {
				for _, s := range some {
					checkApply(t, s, change(c, kept, added...))
				}
			}
		}
	}
	for _, kept := range lists(3, dots[:5]...) {
		checkApply(t, some[1], change(of([]int{3, 3}), kept))
		checkApply(t, some[1], change(of([]int{3, 3}), kept, at(1, 3, idA)))
		checkApply(t, some[1], change(of([]int{3, 3}), nil, holding(kept, idC, idD)...))
		checkApply(t, some[1], change(of([]int{3, 3}), []api.Dot{dot(2, 3)}, holding(kept, idA)...))
	}
}

// P17.2 to P17.4: sets and clouds that are in no form, for each reason, at each place: the first one's error counts first.
func TestWrongOnes(t *testing.T) {
	clouds := []api.Cloud{of(nil), of([]int{2}), of([]int{1}, dot(1, 3)), of([]int{-1}), of(make([]int, 17)), of([]int{0}), of(nil, dot(1, 1)), of(nil, dot(17, 2)), of(nil, every(1, 2, 2, mostDots+1)...)}
	var all []api.Set
	for _, c := range clouds {
		for _, held := range [][]api.Held{nil, {at(1, 1, idA)}, {at(1, 1, idB)}, {at(1, 3, idA)}, {at(1, 1, idA), at(1, 2, idB)}, {at(1, 2, idA), at(1, 1, idB)}, {at(1, 1, idA), at(1, 1, idA)}, {at(1, 0, idA)}, {at(0, 1, idA)}} {
			all = append(all, set(c, held...))
		}
	}
	asked := []api.Dot{dot(1, 1), dot(1, 4), dot(2, 1), dot(0, 1), dot(1, 0), dot(17, 1), dot(1, lastNumber+1), dot(least, 1), dot(1, least), dot(greatest, greatest)}
	for _, a := range all {
		checkOne(t, a)
		checkDrop(t, a, idA)
		checkDrop(t, a, idC)
		for _, d := range asked {
			checkAdd(t, a, d, idB)
		}
		for _, c := range clouds {
			checkDelta(t, a, c)
		}
		for _, b := range all {
			checkJoin(t, a, b)
			checkApply(t, a, change(b.Seen, nil, b.Held...))
			checkApply(t, a, change(b.Seen, dotsIn(b.Held)))
		}
	}
}
