package orset_test

import (
	"bytes"
	"slices"
	"testing"

	"entrepot/api"
	"entrepot/cloud"
	"entrepot/orset"
)

// The limits of the document, in numbers of the tests' own.
const (
	mostRegions = 16
	lastNumber  = 1 << 20
	mostDots    = 4096
	least       = -1 << 63
	greatest    = 1<<63 - 1
)

// Four digests, ascending: of the last three the first bytes are the same, and one byte is greater than an int8 is.
var (
	idA = api.ID{}
	idB = api.ID{1}
	idC = api.ID{1, 127, 3}
	idD = api.ID{1, 128}
)

// dot is the dot R, N.
func dot(r, n int) api.Dot {
	return api.Dot{R: r, N: n}
}

// of is the cloud V; Dots, whatever its form is.
func of(v []int, dots ...api.Dot) api.Cloud {
	return api.Cloud{V: v, Dots: dots}
}

// at is a digest that is held with the dot R, N.
func at(r, n int, id api.ID) api.Held {
	return api.Held{Dot: dot(r, n), ID: id}
}

// set is a set, whatever its form is.
func set(seen api.Cloud, held ...api.Held) api.Set {
	return api.Set{Held: held, Seen: seen}
}

// change is a change, whatever its form is.
func change(seen api.Cloud, kept []api.Dot, held ...api.Held) api.Change {
	return api.Change{New: held, Kept: kept, Seen: seen}
}

// every is so many dots of a region, from a number on, each a step after the one before it.
func every(r, from, step, many int) []api.Dot {
	var list []api.Dot
	for i := range many {
		list = append(list, dot(r, from+i*step))
	}
	return list
}

// universe are all dots of so many regions with so many numbers.
func universe(regions, numbers int) []api.Dot {
	var list []api.Dot
	for r := range regions {
		list = append(list, every(r+1, 1, 1, numbers)...)
	}
	return list
}

// holding are dots with digests, which take turns.
func holding(dots []api.Dot, ids ...api.ID) []api.Held {
	var list []api.Held
	for i, d := range dots {
		list = append(list, api.Held{Dot: d, ID: ids[i%len(ids)]})
	}
	return list
}

// dotsIn are the dots of what is held.
func dotsIn(held []api.Held) []api.Dot {
	var list []api.Dot
	for _, h := range held {
		list = append(list, h.Dot)
	}
	return list
}

// dotsOf are all dots of a cloud.
func dotsOf(c api.Cloud) []api.Dot {
	var list []api.Dot
	for i, n := range c.V {
		list = append(list, every(i+1, 1, 1, n)...)
	}
	return append(list, c.Dots...)
}

// made is the cloud of some dots, which must have one.
func made(dots ...api.Dot) api.Cloud {
	c, err := cloud.Make(nil, dots)
	if err != api.OK {
		panic(err)
	}
	return c
}

// isDot is the definition of a dot.
func isDot(d api.Dot) bool {
	return 1 <= d.R && d.R <= mostRegions && 1 <= d.N && d.N <= lastNumber
}

// after is the order of dots.
func after(x, y api.Dot) bool {
	return x.R > y.R || x.R == y.R && x.N > y.N
}

// asker asks for dots of a cloud, one after the other.
type asker struct {
	first []int
	more  map[api.Dot]bool
}

// ask looks at a cloud in canonical form.
func ask(c api.Cloud) asker {
	a := asker{c.V, map[api.Dot]bool{}}
	for _, d := range c.Dots {
		a.more[d] = true
	}
	return a
}

// has is whether a dot is one of the cloud.
func (a asker) has(d api.Dot) bool {
	return a.more[d] || isDot(d) && d.R <= len(a.first) && d.N <= a.first[d.R-1]
}

// find are the digests by the dots with which they are held.
func find(held []api.Held) map[api.Dot]api.ID {
	all := map[api.Dot]api.ID{}
	for _, h := range held {
		all[h.Dot] = h.ID
	}
	return all
}

// inOrder is what is held with some dots, in the order of these.
func inOrder(all map[api.Dot]api.ID) []api.Held {
	var list []api.Held
	for d, id := range all {
		list = append(list, api.Held{Dot: d, ID: id})
	}
	slices.SortFunc(list, func(x, y api.Held) int {
		if after(x.Dot, y.Dot) {
			return 1
		}
		return -1
	})
	return list
}

// inForm is what is said of a list of dots, each of which was seen.
func inForm(dots []api.Dot, seen asker) bool {
	for i, d := range dots {
		if !seen.has(d) || i > 0 && !after(d, dots[i-1]) {
			return false
		}
	}
	return true
}

// wrong is what is said of Check.
func wrong(s api.Set) api.Errno {
	if err := cloud.Check(s.Seen); err != api.OK {
		return err
	}
	if !inForm(dotsIn(s.Held), ask(s.Seen)) {
		return api.ErrArg
	}
	return api.OK
}

// wrongChange is what is said of the form of a change.
func wrongChange(c api.Change) api.Errno {
	if err := cloud.Check(c.Seen); err != api.OK {
		return err
	}
	seen, added := ask(c.Seen), find(c.New)
	if !inForm(dotsIn(c.New), seen) || !inForm(c.Kept, seen) {
		return api.ErrArg
	}
	for _, d := range c.Kept {
		if _, is := added[d]; is {
			return api.ErrArg
		}
	}
	return api.OK
}

// digests is what is said of IDs.
func digests(s api.Set) []api.ID {
	if wrong(s) != api.OK {
		return nil
	}
	seen := map[api.ID]bool{}
	for _, h := range s.Held {
		seen[h.ID] = true
	}
	var list []api.ID
	for id := range seen {
		list = append(list, id)
	}
	slices.SortFunc(list, func(x, y api.ID) int { return bytes.Compare(x[:], y[:]) })
	return list
}

// added is what is said of Add.
func added(s api.Set, d api.Dot, id api.ID) (api.Set, api.Errno) {
	if err := wrong(s); err != api.OK {
		return api.Set{}, err
	}
	if !isDot(d) {
		return api.Set{}, api.ErrRange
	}
	if ask(s.Seen).has(d) {
		return api.Set{}, api.ErrDouble
	}
	seen, err := cloud.Make(s.Seen.V, append(slices.Clone(s.Seen.Dots), d))
	if err != api.OK {
		return api.Set{}, api.ErrFull
	}
	all := find(s.Held)
	all[d] = id
	return set(seen, inOrder(all)...), api.OK
}

// dropped is what is said of Drop.
func dropped(s api.Set, id api.ID) (api.Set, api.Errno) {
	if err := wrong(s); err != api.OK {
		return api.Set{}, err
	}
	var rest []api.Held
	for _, h := range s.Held {
		if h.ID != id {
			rest = append(rest, h)
		}
	}
	if len(rest) == len(s.Held) {
		return api.Set{}, api.ErrManifest
	}
	return set(s.Seen, rest...), api.OK
}

// joined is what is said of Join.
func joined(a, b api.Set) (api.Set, api.Errno) {
	for _, s := range []api.Set{a, b} {
		if err := wrong(s); err != api.OK {
			return api.Set{}, err
		}
	}
	here, there, all := find(a.Held), find(b.Held), map[api.Dot]api.ID{}
	seenHere, seenThere := ask(a.Seen), ask(b.Seen)
	for d, id := range here {
		other, is := there[d]
		if is && other != id {
			return api.Set{}, api.ErrConflict
		}
		if is || !seenThere.has(d) {
			all[d] = id
		}
	}
	seen, err := cloud.Join(a.Seen, b.Seen)
	if err != api.OK {
		return api.Set{}, err
	}
	for d, id := range there {
		if !seenHere.has(d) {
			all[d] = id
		}
	}
	return set(seen, inOrder(all)...), api.OK
}

// delta is what is said of Delta.
func delta(s api.Set, since api.Cloud) (api.Change, api.Errno) {
	if err := wrong(s); err != api.OK {
		return api.Change{}, err
	}
	if err := cloud.Check(since); err != api.OK {
		return api.Change{}, err
	}
	c, before := change(s.Seen, nil), ask(since)
	for _, h := range s.Held {
		if before.has(h.Dot) {
			c.Kept = append(c.Kept, h.Dot)
		} else {
			c.New = append(c.New, h)
		}
	}
	return c, api.OK
}

// applied is what is said of Apply.
func applied(s api.Set, c api.Change) (api.Set, api.Errno) {
	if err := wrong(s); err != api.OK {
		return api.Set{}, err
	}
	if err := wrongChange(c); err != api.OK {
		return api.Set{}, err
	}
	here, there, all := find(s.Held), find(c.New), map[api.Dot]api.ID{}
	for d, id := range here {
		if other, is := there[d]; is && other != id {
			return api.Set{}, api.ErrConflict
		}
	}
	seen, err := cloud.Join(s.Seen, c.Seen)
	if err != api.OK {
		return api.Set{}, err
	}
	known, kept, changed := ask(s.Seen), ask(of(nil, c.Kept...)), ask(c.Seen)
	for d, id := range here {
		if _, is := there[d]; is || kept.has(d) || !changed.has(d) {
			all[d] = id
		}
	}
	for d, id := range there {
		if !known.has(d) {
			all[d] = id
		}
	}
	return set(seen, inOrder(all)...), api.OK
}

// sameSeen compares two clouds, whose lists may be nil or empty.
func sameSeen(a, b api.Cloud) bool {
	return slices.Equal(a.V, b.V) && slices.Equal(a.Dots, b.Dots)
}

// same compares two sets, whose lists may be nil or empty.
func same(a, b api.Set) bool {
	return slices.Equal(a.Held, b.Held) && sameSeen(a.Seen, b.Seen)
}

// sameChange compares two changes, whose lists may be nil or empty.
func sameChange(a, b api.Change) bool {
	return slices.Equal(a.New, b.New) && slices.Equal(a.Kept, b.Kept) && sameSeen(a.Seen, b.Seen)
}

// sets are all sets over some dots: each dot is not seen, or seen and not held, or held with one of the digests that ids tells of it.
func sets(dots []api.Dot, ids func(i int) []api.ID) []api.Set {
	list := []api.Set{{}}
	for i, d := range dots {
		for _, s := range list[:len(list):len(list)] {
			seen := made(append(dotsOf(s.Seen), d)...)
			list = append(list, set(seen, s.Held...))
			for _, id := range ids(i) {
				list = append(list, set(seen, inOrder(find(append(slices.Clone(s.Held), api.Held{Dot: d, ID: id})))...))
			}
		}
	}
	return list
}

// changes are all changes over some dots, which ascend: each dot is as in a set, or kept.
func changes(dots []api.Dot, ids func(i int) []api.ID) []api.Change {
	var list []api.Change
	for _, s := range sets(dots, ids) {
		free := slices.DeleteFunc(slices.Clone(dots), func(d api.Dot) bool {
			return !ask(s.Seen).has(d) || slices.Contains(dotsIn(s.Held), d)
		})
		for _, kept := range parts(free) {
			list = append(list, change(s.Seen, kept, s.Held...))
		}
	}
	return list
}

// parts are all parts of a list of dots.
func parts(dots []api.Dot) [][]api.Dot {
	list := [][]api.Dot{nil}
	for _, d := range dots {
		for _, part := range list[:len(list):len(list)] {
			list = append(list, append(slices.Clone(part), d))
		}
	}
	return list
}

// clouds are those of all parts of a list of dots.
func clouds(dots []api.Dot) []api.Cloud {
	var list []api.Cloud
	for _, part := range parts(dots) {
		list = append(list, made(part...))
	}
	return list
}

// lists are all lists of up to so many things out of some.
func lists[T any](most int, things ...T) [][]T {
	all := [][]T{nil}
	for from := 0; most > 0; most-- {
		end := len(all)
		for _, list := range all[from:end] {
			for _, x := range things {
				all = append(all, append(slices.Clone(list), x))
			}
		}
		from = end
	}
	return all
}

// twoIDs are the digests with which each dot may be held.
func twoIDs(int) []api.ID { return []api.ID{idB, idA} }

// oneID is the only digest with which the i-th dot may be held: some dots have the same one.
func oneID(i int) []api.ID {
	return [][]api.ID{{idB}, {idA}, {idB}, {idD}, {idC}, {idA}}[i]
}

// join is the join of sets, which must be there.
func join(t *testing.T, a, b api.Set) api.Set {
	t.Helper()
	s, err := orset.Join(a, b)
	if err != api.OK {
		t.Fatalf("Join(%v, %v): %v", brief(a), brief(b), err)
	}
	return s
}

// add is a set with a digest, which must be new.
func add(t *testing.T, s api.Set, d api.Dot, id api.ID) api.Set {
	t.Helper()
	a, err := orset.Add(s, d, id)
	if err != api.OK {
		t.Fatalf("Add(%v, %v): %v", brief(s), d, err)
	}
	return a
}

// drop is a set without a digest, which must be there.
func drop(t *testing.T, s api.Set, id api.ID) api.Set {
	t.Helper()
	a, err := orset.Drop(s, id)
	if err != api.OK {
		t.Fatalf("Drop(%v, %v): %v", brief(s), id, err)
	}
	return a
}

// follow is a set, changed by what another one has that was not seen at some time.
func follow(t *testing.T, s, other api.Set, since api.Cloud) api.Set {
	t.Helper()
	c, err := orset.Delta(other, since)
	if err != api.OK {
		t.Fatalf("Delta(%v, %v): %v", brief(other), since, err)
	}
	a, err := orset.Apply(s, c)
	if err != api.OK {
		t.Fatalf("Apply(%v, %v): %v", brief(s), c, err)
	}
	return a
}
