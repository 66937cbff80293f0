package register_test

import (
	"bytes"
	"slices"
	"testing"

	"entrepot/api"
	"entrepot/cloud"
	"entrepot/register"
)

// The limits of the document, in numbers of the tests' own.
const (
	mostRegions = 16
	lastNumber  = 1 << 20
	mostDots    = 4096
	least       = -1 << 63
	greatest    = 1<<63 - 1
)

// Four digests, ascending: of the last three the first bytes are the same, and one byte is greater than an int8 is.
var (
	idA = api.ID{}
	idB = api.ID{1}
	idC = api.ID{1, 127, 3}
	idD = api.ID{1, 128}
)

// dot is the dot R, N.
func dot(r, n int) api.Dot {
	return api.Dot{R: r, N: n}
}

// of is the cloud V; Dots, whatever its form is.
func of(v []int, dots ...api.Dot) api.Cloud {
	return api.Cloud{V: v, Dots: dots}
}

// at is a digest that is held with the dot R, N.
func at(r, n int, id api.ID) api.Held {
	return api.Held{Dot: dot(r, n), ID: id}
}

// reg is a register, whatever its form is.
func reg(seen api.Cloud, held ...api.Held) api.Register {
	return api.Register{Held: held, Seen: seen}
}

// every is so many dots of a region, from a number on, each a step after the one before it.
func every(r, from, step, many int) []api.Dot {
	var list []api.Dot
	for i := range many {
		list = append(list, dot(r, from+i*step))
	}
	return list
}

// universe are all dots of so many regions with so many numbers.
func universe(regions, numbers int) []api.Dot {
	var list []api.Dot
	for r := range regions {
		list = append(list, every(r+1, 1, 1, numbers)...)
	}
	return list
}

// holding are dots with digests, which take turns.
func holding(dots []api.Dot, ids ...api.ID) []api.Held {
	var list []api.Held
	for i, d := range dots {
		list = append(list, api.Held{Dot: d, ID: ids[i%len(ids)]})
	}
	return list
}

// set is the cloud of some dots, which must have one.
func set(dots ...api.Dot) api.Cloud {
	c, err := cloud.Make(nil, dots)
	if err != api.OK {
		panic(err)
	}
	return c
}

// isDot is the definition of a dot.
func isDot(d api.Dot) bool {
	return 1 <= d.R && d.R <= mostRegions && 1 <= d.N && d.N <= lastNumber
}

// after is the order of dots.
func after(x, y api.Dot) bool {
	return x.R > y.R || x.R == y.R && x.N > y.N
}

// asker asks for dots of a cloud, one after the other.
type asker struct {
	first []int
	more  map[api.Dot]bool
}

// ask looks at a cloud in canonical form.
func ask(c api.Cloud) asker {
	a := asker{c.V, map[api.Dot]bool{}}
	for _, d := range c.Dots {
		a.more[d] = true
	}
	return a
}

// has is whether a dot is one of the cloud.
func (a asker) has(d api.Dot) bool {
	return a.more[d] || isDot(d) && d.R <= len(a.first) && d.N <= a.first[d.R-1]
}

// find is the digest that is held with a dot, if one is.
func find(r api.Register) map[api.Dot]api.ID {
	all := map[api.Dot]api.ID{}
	for _, h := range r.Held {
		all[h.Dot] = h.ID
	}
	return all
}

// inOrder is what is held with some dots, in the order of these.
func inOrder(all map[api.Dot]api.ID) []api.Held {
	var list []api.Held
	for d, id := range all {
		list = append(list, api.Held{Dot: d, ID: id})
	}
	slices.SortFunc(list, func(x, y api.Held) int {
		if after(x.Dot, y.Dot) {
			return 1
		}
		return -1
	})
	return list
}

// wrong is what is said of Check.
func wrong(r api.Register) api.Errno {
	if err := cloud.Check(r.Seen); err != api.OK {
		return err
	}
	seen := ask(r.Seen)
	for i, h := range r.Held {
		if !seen.has(h.Dot) || i > 0 && !after(h.Dot, r.Held[i-1].Dot) {
			return api.ErrArg
		}
	}
	return api.OK
}

// digests is what is said of IDs.
func digests(r api.Register) []api.ID {
	if wrong(r) != api.OK {
		return nil
	}
	seen := map[api.ID]bool{}
	for _, h := range r.Held {
		seen[h.ID] = true
	}
	var list []api.ID
	for id := range seen {
		list = append(list, id)
	}
	slices.SortFunc(list, func(x, y api.ID) int { return bytes.Compare(x[:], y[:]) })
	return list
}

// torn is what is said of Torn.
func torn(r api.Register) bool {
	for _, h := range r.Held {
		if h.ID != r.Held[0].ID {
			return wrong(r) == api.OK
		}
	}
	return false
}

// leaving is what a register holds, without the dots of a cloud.
func leaving(r api.Register, context api.Cloud) map[api.Dot]api.ID {
	all, gone := find(r), ask(context)
	for d := range all {
		if gone.has(d) {
			delete(all, d)
		}
	}
	return all
}

// written is what is said of Write.
func written(r api.Register, d api.Dot, id api.ID, context api.Cloud) (api.Register, api.Errno) {
	if err := wrong(r); err != api.OK {
		return api.Register{}, err
	}
	if !isDot(d) {
		return api.Register{}, api.ErrRange
	}
	if err := cloud.Check(context); err != api.OK {
		return api.Register{}, err
	}
	if ask(r.Seen).has(d) || ask(context).has(d) {
		return api.Register{}, api.ErrDouble
	}
	seen, err := cloud.Join(r.Seen, context)
	if err != api.OK {
		return api.Register{}, err
	}
	seen, err = cloud.Make(seen.V, append(slices.Clone(seen.Dots), d))
	if err != api.OK {
		return api.Register{}, api.ErrFull
	}
	all := leaving(r, context)
	all[d] = id
	return reg(seen, inOrder(all)...), api.OK
}

// cleared is what is said of Clear.
func cleared(r api.Register, context api.Cloud) (api.Register, api.Errno) {
	if err := wrong(r); err != api.OK {
		return api.Register{}, err
	}
	if err := cloud.Check(context); err != api.OK {
		return api.Register{}, err
	}
	seen, err := cloud.Join(r.Seen, context)
	if err != api.OK {
		return api.Register{}, err
	}
	return reg(seen, inOrder(leaving(r, context))...), api.OK
}

// joined is what is said of Join.
func joined(a, b api.Register) (api.Register, api.Errno) {
	for _, r := range []api.Register{a, b} {
		if err := wrong(r); err != api.OK {
			return api.Register{}, err
		}
	}
	here, there, all := find(a), find(b), map[api.Dot]api.ID{}
	for d, id := range here {
		if other, is := there[d]; is && other != id {
			return api.Register{}, api.ErrConflict
		} else if is {
			all[d] = id
		}
	}
	seen, err := cloud.Join(a.Seen, b.Seen)
	if err != api.OK {
		return api.Register{}, err
	}
	for d, id := range leaving(a, b.Seen) {
		all[d] = id
	}
	for d, id := range leaving(b, a.Seen) {
		all[d] = id
	}
	return reg(seen, inOrder(all)...), api.OK
}

// sameSeen compares two clouds, whose lists may be nil or empty.
func sameSeen(a, b api.Cloud) bool {
	return slices.Equal(a.V, b.V) && slices.Equal(a.Dots, b.Dots)
}

// same compares two registers, whose lists may be nil or empty.
func same(a, b api.Register) bool {
	return slices.Equal(a.Held, b.Held) && sameSeen(a.Seen, b.Seen)
}

// behind is what lies behind the ends of lists that are given: nobody may look at it.
const behind = 7

var (
	gap  = dot(3, 7)
	more = at(4, 9, api.ID{9})
)

// givenCloud is a cloud in memory of its own, with something behind the ends of its lists.
func givenCloud(c api.Cloud) api.Cloud {
	v := append(slices.Clone(c.V), behind, behind, behind)
	dots := append(slices.Clone(c.Dots), gap, gap, gap)
	return of(v[:len(c.V)], dots[:len(c.Dots)]...)
}

// given is a register in memory of its own, with something behind the ends of its lists.
func given(r api.Register) api.Register {
	held := append(slices.Clone(r.Held), more, more, more)
	return reg(givenCloud(r.Seen), held[:len(r.Held)]...)
}

// keptCloud expects a cloud that was given to be as it was, with what lies behind its lists.
func keptCloud(t *testing.T, got, c api.Cloud) {
	t.Helper()
	v, dots := got.V[:len(c.V)+3], got.Dots[:len(c.Dots)+3]
	if !sameSeen(of(v[:len(c.V)], dots[:len(c.Dots)]...), c) {
		t.Fatalf("%v became %v", c, got)
	}
	if !slices.Equal(v[len(c.V):], []int{behind, behind, behind}) || !slices.Equal(dots[len(c.Dots):], []api.Dot{gap, gap, gap}) {
		t.Fatalf("behind %v: %v, %v", c, v, dots)
	}
}

// kept expects a register that was given to be as it was, with what lies behind its lists.
func kept(t *testing.T, got, r api.Register) {
	t.Helper()
	keptCloud(t, got.Seen, r.Seen)
	held := got.Held[:len(r.Held)+3]
	if !slices.Equal(held[:len(r.Held)], r.Held) || !slices.Equal(held[len(r.Held):], []api.Held{more, more, more}) {
		t.Fatalf("%v became %v", r, held)
	}
}

// spoil changes all memory of a result, to the end of its spare capacity.
func spoil(r api.Register) {
	for i := range r.Held[:cap(r.Held)] {
		r.Held[:cap(r.Held)][i] = at(-99, -99, api.ID{99})
	}
	for i := range r.Seen.V[:cap(r.Seen.V)] {
		r.Seen.V[:cap(r.Seen.V)][i] = -99
	}
	for i := range r.Seen.Dots[:cap(r.Seen.Dots)] {
		r.Seen.Dots[:cap(r.Seen.Dots)][i] = dot(-99, -99)
	}
}

// brief is a register, without most of what it has if that is much.
func brief(r api.Register) api.Register {
	return reg(of(r.Seen.V, r.Seen.Dots[:min(len(r.Seen.Dots), 20)]...), r.Held[:min(len(r.Held), 20)]...)
}

// result expects a register and an error.
func result(t *testing.T, what string, got api.Register, err api.Errno, want api.Register, wanted api.Errno) {
	t.Helper()
	if !same(got, want) || err != wanted {
		t.Fatalf("%s: %v, %v, not %v, %v", what, brief(got), err, brief(want), wanted)
	}
	if err == api.OK && register.Check(got) != api.OK {
		t.Fatalf("%s: %v is not in its form", what, brief(got))
	}
}

// checkOne compares what is told of a register with the definitions.
func checkOne(t *testing.T, r api.Register) {
	t.Helper()
	list, want := given(r), digests(r)
	if got, want := register.Check(list), wrong(r); got != want {
		t.Fatalf("Check(%v) = %v, not %v", brief(r), got, want)
	}
	for range 2 {
		got := register.IDs(list)
		if !slices.Equal(got, want) {
			t.Fatalf("IDs(%v) = %v, not %v", brief(r), got, want)
		}
		for i := range got[:cap(got)] {
			got[:cap(got)][i] = api.ID{99}
		}
	}
	if got, want := register.Torn(list), torn(r); got != want {
		t.Fatalf("Torn(%v) = %v", brief(r), got)
	}
	kept(t, list, r)
}

// checkWrite compares what is written with the definition, twice, with the first result changed in between.
func checkWrite(t *testing.T, r api.Register, d api.Dot, id api.ID, context api.Cloud) {
	t.Helper()
	want, wanted := written(r, d, id, context)
	x, c := given(r), givenCloud(context)
	for range 2 {
		got, err := register.Write(x, d, id, c)
		result(t, "Write", got, err, want, wanted)
		spoil(got)
		kept(t, x, r)
		keptCloud(t, c, context)
	}
}

// checkClear compares what is cleared with the definition, twice, with the first result changed in between.
func checkClear(t *testing.T, r api.Register, context api.Cloud) {
	t.Helper()
	want, wanted := cleared(r, context)
	x, c := given(r), givenCloud(context)
	for range 2 {
		got, err := register.Clear(x, c)
		result(t, "Clear", got, err, want, wanted)
		spoil(got)
		kept(t, x, r)
		keptCloud(t, c, context)
	}
}

// checkJoin compares a join with the definition, twice, with the first result changed in between.
func checkJoin(t *testing.T, a, b api.Register) {
	t.Helper()
	want, wanted := joined(a, b)
	x, y := given(a), given(b)
	for range 2 {
		got, err := register.Join(x, y)
		result(t, "Join", got, err, want, wanted)
		spoil(got)
		kept(t, x, a)
		kept(t, y, b)
	}
}

// registers are all registers over some dots: each dot is not seen, or seen and not held, or held with one of the digests that ids tells of it.
func registers(dots []api.Dot, ids func(i int) []api.ID) []api.Register {
	list := []api.Register{{}}
	for i, d := range dots {
		for _, r := range list[:len(list):len(list)] {
			seen := set(append(slices.Clone(dotsOf(r.Seen)), d)...)
			list = append(list, reg(seen, r.Held...))
			for _, id := range ids(i) {
				list = append(list, reg(seen, inOrder(with(find(r), d, id))...))
			}
		}
	}
	return list
}

// with holds one more digest.
func with(all map[api.Dot]api.ID, d api.Dot, id api.ID) map[api.Dot]api.ID {
	all[d] = id
	return all
}

// dotsOf are all dots of a cloud.
func dotsOf(c api.Cloud) []api.Dot {
	var list []api.Dot
	for i, n := range c.V {
		list = append(list, every(i+1, 1, 1, n)...)
	}
	return append(list, c.Dots...)
}

// subsets are the clouds of all sets of dots out of some.
func subsets(dots []api.Dot) []api.Cloud {
	var list []api.Cloud
	for mask := range 1 << len(dots) {
		var in []api.Dot
		for i, d := range dots {
			if mask>>i&1 == 1 {
				in = append(in, d)
			}
		}
		list = append(list, set(in...))
	}
	return list
}

// lists are all lists of up to so many things out of some.
func lists[T any](most int, things ...T) [][]T {
	all := [][]T{nil}
	for from := 0; most > 0; most-- {
		end := len(all)
		for _, list := range all[from:end] {
			for _, x := range things {
				all = append(all, append(slices.Clone(list), x))
			}
		}
		from = end
	}
	return all
}
