package register_test

import (
	"slices"
	"testing"

	"entrepot/api"
	"entrepot/cloud"
	"entrepot/register"
)

// chance makes choices of which none repeats soon, the same ones each time.
type chance uint64

// below returns a number from 0 on and below n.
func (c *chance) below(n int) int {
	*c = *c*6364136223846793005 + 1442695040888963407
	return int(uint64(*c)>>33) % n
}

// one returns one of a list.
func one[T any](c *chance, list ...T) T {
	return list[c.below(len(list))]
}

// dot is one of a few regions and numbers, seldom of any, hardly ever none.
func (c *chance) dot() api.Dot {
	n := one(c, 1+c.below(4), 1+c.below(12), 1+c.below(12), lastNumber-c.below(3))
	if c.below(300) == 0 {
		return dot(one(c, 0, 17, -1, 3), one(c, 0, -1, lastNumber+1, n))
	}
	return dot(one(c, 1, 1, 2, 3, 1+c.below(16)), n)
}

// dots are few of these, in any order.
func (c *chance) dots() []api.Dot {
	var list []api.Dot
	for range c.below(one(c, 3, 10, 30)) {
		list = append(list, c.dot())
	}
	return list
}

// cloud is mostly one in its form.
func (c *chance) cloud() api.Cloud {
	v := make([]int, c.below(4))
	for i := range v {
		v[i] = one(c, 0, c.below(5), c.below(12))
	}
	dots := c.dots()
	if made, err := cloud.Make(v, dots); err == api.OK && c.below(20) > 0 {
		return made
	}
	return of(v, dots...)
}

// digest is one of few, mostly the same one for the same dot.
func (c *chance) digest(d api.Dot) api.ID {
	if c.below(40) == 0 {
		return one(c, idA, idB, idC, idD)
	}
	return []api.ID{idA, idB, idC, idD}[(d.R+3*d.N)&3]
}

// register is mostly one in its form, which holds some of what it has seen.
func (c *chance) register() api.Register {
	r := reg(c.cloud())
	asked := c.dots()
	if c.below(3) > 0 {
		asked = append(asked, dotsOf(r.Seen)[:min(len(dotsOf(r.Seen)), 8)]...)
	}
	all := map[api.Dot]api.ID{}
	for _, d := range asked {
		if cloud.Has(r.Seen, d) || c.below(60) == 0 {
			all[d] = c.digest(d)
		}
	}
	r.Held = inOrder(all)
	if len(r.Held) > 0 && c.below(15) == 0 {
		i := c.below(len(r.Held))
		r.Held = slices.Insert(r.Held, i, one(c, r.Held...))
	}
	return r
}

// near is a register that is changed at few places.
func (c *chance) near(r api.Register) api.Register {
	near, err := register.Join(r, reg(c.cloud()))
	if err != api.OK {
		near = r
	}
	near.Held = slices.Clone(near.Held)
	for range c.below(3) {
		if len(near.Held) > 0 {
			i := c.below(len(near.Held))
			near.Held = slices.Delete(near.Held, i, i+1)
		}
	}
	if len(near.Held) > 0 && c.below(10) == 0 {
		i := c.below(len(near.Held))
		near.Held[i].ID = one(c, idA, idB, idC, idD)
	}
	if d := c.dot(); c.below(2) == 0 {
		if w, err := register.Write(near, d, c.digest(d), c.cloud()); err == api.OK {
			return w
		}
	}
	return near
}

// P16.1 to P16.3: many registers, beside the definitions of the chapter.
func TestManyRegisters(t *testing.T) {
	c := chance(16)
	checked, writes, clears, joins := map[api.Errno]int{}, map[api.Errno]int{}, map[api.Errno]int{}, map[api.Errno]int{}
	for range 30000 {
		a := c.register()
		b := c.near(a)
		if c.below(3) == 0 {
			b = c.register()
		}
		d, context := c.dot(), c.cloud()
		checkOne(t, a)
		checkOne(t, b)
		checkWrite(t, b, d, c.digest(d), context)
		checkClear(t, b, context)
		checkJoin(t, a, b)
		_, write := register.Write(b, d, idA, context)
		_, clear := register.Clear(b, context)
		_, join := register.Join(a, b)
		checked[register.Check(b)]++
		writes[write]++
		clears[clear]++
		joins[join]++
	}
	for _, e := range []struct {
		name   string
		kinds  map[api.Errno]int
		wanted []api.Errno
	}{
		{"Check", checked, []api.Errno{api.ErrArg, api.ErrRange}}, {"Write", writes, []api.Errno{api.ErrArg, api.ErrRange, api.ErrDouble}},
		{"Clear", clears, []api.Errno{api.ErrArg, api.ErrRange}}, {"Join", joins, []api.Errno{api.ErrArg, api.ErrRange, api.ErrConflict}},
	} {
		for _, err := range e.wanted {
			if e.kinds[err] < 100 || e.kinds[api.OK] < 8000 {
				t.Errorf("%s: %v", e.name, e.kinds)
			}
		}
	}
}

// deed is what somebody does: the write of a digest with a dot, or a clearing, with what they had seen.
type deed struct {
	writes  bool
	held    api.Held
	context []api.Dot
}

// known are the deeds that a region knows of, by their places in the list of all.
type known map[int]bool

// standing is what nobody has overwritten: what was written and is in the context of no deed that is known.
func standing(all []deed, in known) []api.Held {
	stand := map[api.Dot]api.ID{}
	for i := range in {
		if all[i].writes {
			stand[all[i].held.Dot] = all[i].held.ID
		}
	}
	for i := range in {
		for _, d := range all[i].context {
			delete(stand, d)
		}
	}
	return inOrder(stand)
}

// seenOf are all dots of deeds that are known, and of their contexts.
func seenOf(all []deed, in known) api.Cloud {
	var dots []api.Dot
	for i := range in {
		dots = append(dots, all[i].context...)
		if all[i].writes {
			dots = append(dots, all[i].held.Dot)
		}
	}
	return set(dots...)
}

// part is some of a list.
func part(c *chance, dots []api.Dot) []api.Dot {
	keep := one(c, 0, 1, 2, 3, 4, 4, 4)
	return slices.DeleteFunc(slices.Clone(dots), func(api.Dot) bool { return c.below(4) >= keep })
}

// P16.4, P16.5: regions that write, clear, and join what others have, in any order: what is there is what nobody has overwritten, of all that is known.
func TestHistories(t *testing.T) {
	c := chance(17)
	tears := 0
	for range 300 {
		n := 2 + c.below(5)
		regions, knows, numbers := make([]api.Register, n), make([]known, n), make([]int, n)
		for r := range knows {
			knows[r] = known{}
		}
		var all []deed
		for range 60 {
			r, other := c.below(n), c.below(n)
			switch c.below(4) {
			case 0, 1:
				numbers[r] += 1 + c.below(2)
				next := deed{true, at(r+1, numbers[r], one(&c, idA, idB, idC)), part(&c, dotsOf(regions[r].Seen))}
				regions[r] = write(t, regions[r], next.held.Dot, next.held.ID, set(next.context...))
				all = append(all, next)
				knows[r][len(all)-1] = true
			case 2:
				// Somebody may clear what another one had seen, too.
				next := deed{context: part(&c, dotsOf(regions[other].Seen))}
				regions[r], _ = register.Clear(regions[r], set(next.context...))
				all = append(all, next)
				knows[r][len(all)-1] = true
			default:
				regions[r] = join(t, regions[r], regions[other])
				for i := range knows[other] {
					knows[r][i] = true
				}
			}
			want := reg(seenOf(all, knows[r]), standing(all, knows[r])...)
			result(t, "history", regions[r], api.OK, want, api.OK)
			if register.Torn(regions[r]) {
				tears++
			}
		}
		checkMeeting(t, regions)
	}
	if tears < 2000 {
		t.Errorf("%d times torn", tears)
	}
}

// checkMeeting expects all registers to be the same one when each has what all others have, in two orders.
func checkMeeting(t *testing.T, regions []api.Register) {
	t.Helper()
	there, back := api.Register{}, api.Register{}
	for i := range regions {
		there, back = join(t, there, regions[i]), join(t, regions[len(regions)-1-i], back)
	}
	if !same(there, back) {
		t.Fatalf("%v: %v, %v", regions, there, back)
	}
	for _, r := range regions {
		if !same(join(t, r, there), there) || !same(join(t, there, r), there) {
			t.Fatalf("%v joined with all: %v", r, join(t, r, there))
		}
	}
}
