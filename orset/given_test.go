package orset_test

import (
	"slices"
	"testing"

	"entrepot/api"
	"entrepot/orset"
)

// behind is what lies behind the ends of lists that are given: nobody may look at it.
const behind = 7

var (
	gap  = dot(3, 7)
	more = at(4, 9, api.ID{9})
)

// spare is a list in memory of its own, with something behind its end.
func spare[T any](list []T, x T) []T {
	return append(slices.Clone(list), x, x, x)[:len(list)]
}

// unchanged is whether a list that was given is as it was, with what lies behind it.
func unchanged[T comparable](got, list []T, x T) bool {
	all := got[:len(list)+3]
	return slices.Equal(all[:len(list)], list) && slices.Equal(all[len(list):], []T{x, x, x})
}

// givenCloud is a cloud in memory of its own, with something behind the ends of its lists.
func givenCloud(c api.Cloud) api.Cloud {
	return api.Cloud{V: spare(c.V, behind), Dots: spare(c.Dots, gap)}
}

// givenSet is a set of that kind.
func givenSet(s api.Set) api.Set {
	return api.Set{Held: spare(s.Held, more), Seen: givenCloud(s.Seen)}
}

// givenChange is a change of that kind.
func givenChange(c api.Change) api.Change {
	return api.Change{New: spare(c.New, more), Kept: spare(c.Kept, gap), Seen: givenCloud(c.Seen)}
}

// keptCloud expects a cloud that was given to be as it was.
func keptCloud(t *testing.T, got, c api.Cloud) {
	t.Helper()
	if !unchanged(got.V, c.V, behind) || !unchanged(got.Dots, c.Dots, gap) {
		t.Fatalf("%v became %v", c, got)
	}
}

// keptSet expects a set that was given to be as it was.
func keptSet(t *testing.T, got, s api.Set) {
	t.Helper()
	keptCloud(t, got.Seen, s.Seen)
	if !unchanged(got.Held, s.Held, more) {
		t.Fatalf("%v became %v", brief(s), brief(got))
	}
}

// keptChange expects a change that was given to be as it was.
func keptChange(t *testing.T, got, c api.Change) {
	t.Helper()
	keptCloud(t, got.Seen, c.Seen)
	if !unchanged(got.New, c.New, more) || !unchanged(got.Kept, c.Kept, gap) {
		t.Fatalf("%v became %v", c, got)
	}
}

// fill changes all memory of a list, to the end of its spare capacity.
func fill[T any](list []T, x T) {
	list = list[:cap(list)]
	for i := range list {
		list[i] = x
	}
}

// spoilCloud changes all memory of a cloud that was a result.
func spoilCloud(c api.Cloud) {
	fill(c.V, -99)
	fill(c.Dots, dot(-99, -99))
}

// spoil changes all memory of a set that was a result.
func spoil(s api.Set) {
	fill(s.Held, at(-99, -99, api.ID{99}))
	spoilCloud(s.Seen)
}

// spoilChange changes all memory of a change that was a result.
func spoilChange(c api.Change) {
	fill(c.New, at(-99, -99, api.ID{99}))
	fill(c.Kept, dot(-99, -99))
	spoilCloud(c.Seen)
}

// some is the beginning of a list.
func some[T any](list []T) []T {
	return list[:min(len(list), 20)]
}

// brief is a set, without most of what it has if that is much.
func brief(s api.Set) api.Set {
	return set(of(s.Seen.V, some(s.Seen.Dots)...), some(s.Held)...)
}

// briefChange is a change of that kind.
func briefChange(c api.Change) api.Change {
	return change(of(c.Seen.V, some(c.Seen.Dots)...), some(c.Kept), some(c.New)...)
}

// result expects a set and an error.
func result(t *testing.T, what string, got api.Set, err api.Errno, want api.Set, wanted api.Errno) {
	t.Helper()
	if !same(got, want) || err != wanted {
		t.Fatalf("%s: %v, %v, not %v, %v", what, brief(got), err, brief(want), wanted)
	}
	if err == api.OK && orset.Check(got) != api.OK {
		t.Fatalf("%s: %v is not in its form", what, brief(got))
	}
}

// resultChange expects a change and an error.
func resultChange(t *testing.T, what string, got api.Change, err api.Errno, want api.Change, wanted api.Errno) {
	t.Helper()
	if !sameChange(got, want) || err != wanted {
		t.Fatalf("%s: %v, %v, not %v, %v", what, briefChange(got), err, briefChange(want), wanted)
	}
	if err == api.OK && wrongChange(got) != api.OK {
		t.Fatalf("%s: %v is not in its form", what, briefChange(got))
	}
}

// checkOne compares what is told of a set with the definitions.
func checkOne(t *testing.T, s api.Set) {
	t.Helper()
	x, want := givenSet(s), digests(s)
	if got, want := orset.Check(x), wrong(s); got != want {
		t.Fatalf("Check(%v) = %v, not %v", brief(s), got, want)
	}
	for range 2 {
		got := orset.IDs(x)
		if !slices.Equal(got, want) {
			t.Fatalf("IDs(%v) = %v, not %v", brief(s), got, want)
		}
		fill(got, api.ID{99})
	}
	for _, id := range append(firstDigests(s), idA, idB, idC, idD, more.ID) {
		if got := orset.Has(x, id); got != slices.Contains(want, id) {
			t.Fatalf("Has(%v, %v) = %v", brief(s), id, got)
		}
	}
	keptSet(t, x, s)
}

// firstDigests are the digests that a set holds first, in whatever form it is.
func firstDigests(s api.Set) []api.ID {
	var list []api.ID
	for _, h := range some(s.Held) {
		list = append(list, h.ID)
	}
	return list
}

// twice compares a set that is made with what is said of it, with the first result changed ahead of the second one.
func twice(t *testing.T, what string, want api.Set, wanted api.Errno, do func() (api.Set, api.Errno)) {
	t.Helper()
	for range 2 {
		got, err := do()
		result(t, what, got, err, want, wanted)
		spoil(got)
	}
}

// checkAdd compares what is added with the definition.
func checkAdd(t *testing.T, s api.Set, d api.Dot, id api.ID) {
	t.Helper()
	want, wanted := added(s, d, id)
	x := givenSet(s)
	twice(t, "Add", want, wanted, func() (api.Set, api.Errno) { return orset.Add(x, d, id) })
	keptSet(t, x, s)
}

// checkDrop compares what is left with the definition.
func checkDrop(t *testing.T, s api.Set, id api.ID) {
	t.Helper()
	want, wanted := dropped(s, id)
	x := givenSet(s)
	twice(t, "Drop", want, wanted, func() (api.Set, api.Errno) { return orset.Drop(x, id) })
	keptSet(t, x, s)
}

// checkJoin compares a join with the definition.
func checkJoin(t *testing.T, a, b api.Set) {
	t.Helper()
	want, wanted := joined(a, b)
	x, y := givenSet(a), givenSet(b)
	twice(t, "Join", want, wanted, func() (api.Set, api.Errno) { return orset.Join(x, y) })
	keptSet(t, x, a)
	keptSet(t, y, b)
}

// checkApply compares what is changed with the definition.
func checkApply(t *testing.T, s api.Set, c api.Change) {
	t.Helper()
	want, wanted := applied(s, c)
	x, y := givenSet(s), givenChange(c)
	twice(t, "Apply", want, wanted, func() (api.Set, api.Errno) { return orset.Apply(x, y) })
	keptSet(t, x, s)
	keptChange(t, y, c)
}

// checkDelta compares a change that is told with the definition, with the first result changed ahead of the second one.
func checkDelta(t *testing.T, s api.Set, since api.Cloud) {
	t.Helper()
	want, wanted := delta(s, since)
	x, y := givenSet(s), givenCloud(since)
	for range 2 {
		got, err := orset.Delta(x, y)
		resultChange(t, "Delta", got, err, want, wanted)
		spoilChange(got)
	}
	keptSet(t, x, s)
	keptCloud(t, y, since)
}
