package orset_test

import (
	"slices"
	"testing"

	"entrepot/api"
	"entrepot/cloud"
	"entrepot/orset"
)

// chance makes choices of which none repeats soon, the same ones each time.
type chance uint64

// below returns a number from 0 on and below n.
func (c *chance) below(n int) int {
	*c = *c*6364136223846793005 + 1442695040888963407
	return int(uint64(*c)>>33) % n
}

// one returns one of a list.
func one[T any](c *chance, list ...T) T {
	return list[c.below(len(list))]
}

// some returns about as many quarters of a list as are told.
func (c *chance) some(dots []api.Dot, quarters int) []api.Dot {
	return slices.DeleteFunc(slices.Clone(dots), func(api.Dot) bool { return c.below(4) >= quarters })
}

// dot is one of a few regions and numbers, seldom of any, hardly ever none.
func (c *chance) dot() api.Dot {
	n := one(c, 1+c.below(4), 1+c.below(12), 1+c.below(12), lastNumber-c.below(3))
	if c.below(300) == 0 {
		return dot(one(c, 0, 17, -1, 3), one(c, 0, -1, lastNumber+1, n))
	}
	return dot(one(c, 1, 1, 2, 3, 1+c.below(16)), n)
}

// dots are few of these, in any order.
func (c *chance) dots() []api.Dot {
	var list []api.Dot
	for range c.below(one(c, 3, 10, 30)) {
		list = append(list, c.dot())
	}
	return list
}

// cloud is mostly one in its form.
func (c *chance) cloud() api.Cloud {
	v := make([]int, c.below(4))
	for i := range v {
		v[i] = one(c, 0, c.below(5), c.below(12))
	}
	dots := c.dots()
	if made, err := cloud.Make(v, dots); err == api.OK && c.below(20) > 0 {
		return made
	}
	return of(v, dots...)
}

// digest is one of few, mostly the same one for the same dot.
func (c *chance) digest(d api.Dot) api.ID {
	if c.below(40) == 0 {
		return one(c, idA, idB, idC, idD)
	}
	return []api.ID{idA, idB, idC, idD}[(d.R+3*d.N)&3]
}

// holding are digests with some dots, mostly of a cloud; hardly ever one of them comes twice.
func (c *chance) holding(seen api.Cloud) []api.Held {
	asked := c.dots()
	if c.below(3) > 0 {
		asked = append(asked, dotsOf(seen)[:min(len(dotsOf(seen)), 8)]...)
	}
	all := map[api.Dot]api.ID{}
	for _, d := range asked {
		if cloud.Has(seen, d) || c.below(60) == 0 {
			all[d] = c.digest(d)
		}
	}
	held := inOrder(all)
	if len(held) > 0 && c.below(15) == 0 {
		held = slices.Insert(held, c.below(len(held)), one(c, held...))
	}
	return held
}

// set is mostly one in its form, which holds some of what it has seen.
func (c *chance) set() api.Set {
	seen := c.cloud()
	return set(seen, c.holding(seen)...)
}

// near is a set that is changed at few places.
func (c *chance) near(s api.Set) api.Set {
	near, err := orset.Join(s, set(c.cloud()))
	if err != api.OK {
		near = s
	}
	near.Held = slices.Clone(near.Held)
	for range min(c.below(3), len(near.Held)) {
		i := c.below(len(near.Held))
		near.Held = slices.Delete(near.Held, i, i+1)
	}
	if len(near.Held) > 0 && c.below(10) == 0 {
		near.Held[c.below(len(near.Held))].ID = one(c, idA, idB, idC, idD)
	}
	if d := c.dot(); c.below(2) == 0 {
		if w, err := orset.Add(near, d, c.digest(d)); err == api.OK {
			return w
		}
	}
	return near
}

// change is mostly what a set tells, or else of no form.
func (c *chance) change(s api.Set) api.Change {
	if told, err := orset.Delta(s, c.cloud()); err == api.OK && c.below(10) > 0 {
		return told
	}
	return change(s.Seen, c.some(dotsOf(s.Seen), 2), s.Held[:len(s.Held)/2]...)
}

// P17.1 to P17.4: many sets, beside the definitions of the chapter.
func TestManySets(t *testing.T) {
	c := chance(17)
	names := []string{"Check", "Add", "Drop", "Join", "Delta", "Apply"}
	var kinds [6]map[api.Errno]int
	for i := range kinds {
		kinds[i] = map[api.Errno]int{}
	}
	for range 30000 {
		a := c.set()
		b := c.near(a)
		if c.below(3) == 0 {
			b = c.set()
		}
		d, id, since, told := c.dot(), one(&c, idA, idB, idC, idD), c.cloud(), c.change(b)
		checkOne(t, a)
		checkAdd(t, a, d, id)
		checkDrop(t, a, id)
		checkJoin(t, a, b)
		checkDelta(t, a, since)
		checkApply(t, a, told)
		_, add := orset.Add(a, d, id)
		_, drop := orset.Drop(a, id)
		_, join := orset.Join(a, b)
		_, delta := orset.Delta(a, since)
		_, apply := orset.Apply(a, told)
		for i, err := range []api.Errno{orset.Check(a), add, drop, join, delta, apply} {
			kinds[i][err]++
		}
	}
	for i, wanted := range [][]api.Errno{{}, {api.ErrDouble}, {api.ErrManifest}, {api.ErrConflict}, {}, {api.ErrConflict}} {
		for _, err := range append(wanted, api.ErrArg, api.ErrRange) {
			if kinds[i][err] < 100 || kinds[i][api.OK] < 8000 {
				t.Errorf("%s: %v", names[i], kinds[i])
			}
		}
	}
}

// deed is what somebody does: they add a digest with a dot, or drop what they had with some dots.
type deed struct {
	added api.Held
	gone  []api.Dot
}

// known are the deeds that a region knows of, by their places in the list of all.
type known map[int]bool

// standing is what was added, and nobody dropped, as far as is known; and all dots of what was added.
func standing(all []deed, in known) api.Set {
	stand := map[api.Dot]api.ID{}
	var seen []api.Dot
	for i := range in {
		if all[i].added != (api.Held{}) {
			stand[all[i].added.Dot] = all[i].added.ID
			seen = append(seen, all[i].added.Dot)
		}
	}
	for i := range in {
		for _, d := range all[i].gone {
			delete(stand, d)
		}
	}
	return set(made(seen...), inOrder(stand)...)
}

// history are regions with their sets, what each one knows, and what was done by all.
type history struct {
	regions []api.Set
	knows   []known
	numbers []int
	all     []deed
}

// do notes what a region does.
func (h *history) do(r int, next deed) {
	h.all = append(h.all, next)
	h.knows[r][len(h.all)-1] = true
}

// learn notes that a region knows what another one does.
func (h *history) learn(r, other int) {
	for i := range h.knows[other] {
		h.knows[r][i] = true
	}
}

// step lets a region add, drop, join another one, or be changed by what another one tells it.
func (h *history) step(t *testing.T, c *chance, r, other int) {
	t.Helper()
	s := h.regions[r]
	switch c.below(5) {
	case 0, 1:
		h.numbers[r] += 1 + c.below(2)
		added := at(r+1, h.numbers[r], one(c, idA, idB, idC))
		h.regions[r] = add(t, s, added.Dot, added.ID)
		h.do(r, deed{added: added})
	case 2:
		if ids := orset.IDs(s); len(ids) > 0 {
			id := one(c, ids...)
			h.regions[r] = drop(t, s, id)
			gone := slices.DeleteFunc(slices.Clone(s.Held), func(h api.Held) bool { return h.ID != id })
			h.do(r, deed{gone: dotsIn(gone)})
		}
	case 3:
		h.regions[r] = join(t, s, h.regions[other])
		h.learn(r, other)
	default:
		since := made(c.some(dotsOf(s.Seen), one(c, 0, 1, 2, 3, 4, 4, 4))...)
		h.regions[r] = follow(t, s, h.regions[other], since)
		h.learn(r, other)
	}
}

// P17.5: regions that add, drop, and learn what others have, in any order: what is there is what was added, and was not removed by anyone who had seen it.
func TestHistories(t *testing.T) {
	c := chance(18)
	drops := 0
	for range 300 {
		n := 2 + c.below(5)
		h := &history{regions: make([]api.Set, n), numbers: make([]int, n)}
		for range n {
			h.knows = append(h.knows, known{})
		}
		for range 60 {
			r := c.below(n)
			h.step(t, &c, r, c.below(n))
			result(t, "history", h.regions[r], api.OK, standing(h.all, h.knows[r]), api.OK)
		}
		for _, d := range h.all {
			drops += len(d.gone)
		}
		checkMeeting(t, h.regions)
	}
	if drops < 2000 {
		t.Errorf("%d dots were dropped", drops)
	}
}

// checkMeeting expects all sets to be the same one when each has what all others have, in two orders.
func checkMeeting(t *testing.T, regions []api.Set) {
	t.Helper()
	there, back := api.Set{}, api.Set{}
	for i := range regions {
		there, back = join(t, there, regions[i]), join(t, regions[len(regions)-1-i], back)
	}
	if !same(there, back) {
		t.Fatalf("%v: %v, %v", regions, there, back)
	}
	for _, s := range regions {
		if !same(join(t, s, there), there) || !same(join(t, there, s), there) || !same(follow(t, s, there, s.Seen), there) {
			t.Fatalf("%v joined with all: %v", s, join(t, s, there))
		}
	}
}
