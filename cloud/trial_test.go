package cloud_test

import (
	"slices"
	"testing"

	"entrepot/api"
	"entrepot/cloud"
)

// chance makes choices of which none repeats soon, the same ones each time.
type chance uint64

// below returns a number from 0 on and below n.
func (c *chance) below(n int) int {
	*c = *c*6364136223846793005 + 1442695040888963407
	return int(uint64(*c)>>33) % n
}

// one returns one of a list.
func one[T any](c *chance, list ...T) T {
	return list[c.below(len(list))]
}

// number is mostly a small one, seldom one about the greatest one, hardly ever none.
func (c *chance) number() int {
	switch c.below(60) {
	case 0, 1, 2:
		return lastNumber - c.below(4)
	case 3:
		return one(c, 0, 0, 0, -1, lastNumber+1, least, greatest)
	case 4, 5:
		return 1 + c.below(lastNumber)
	}
	return 1 + c.below(12)
}

// numbers are those of some regions, many of them 0.
func (c *chance) numbers() []int {
	v := make([]int, c.below(one(c, 2, 4, 4, 17)))
	for i := range v {
		v[i] = one(c, 0, 0, c.below(5), c.below(12), c.number())
	}
	return v
}

// dot is one of a few regions, seldom of any, hardly ever of none.
func (c *chance) dot() api.Dot {
	r := one(c, 1, 1, 2, 3, 1+c.below(16))
	if c.below(200) == 0 {
		r = one(c, 0, 17, -1, least, greatest)
	}
	return dot(r, c.number())
}

// dots are few of these, in any order, some of them more than once.
func (c *chance) dots() []api.Dot {
	var list []api.Dot
	for range c.below(one(c, 3, 10, 30)) {
		list = append(list, c.dot())
		if c.below(8) == 0 {
			list = append(list, one(c, list...))
		}
	}
	return list
}

// cloud is mostly one in its form.
func (c *chance) cloud() api.Cloud {
	v, dots := c.numbers(), c.dots()
	if strange(v, dots) {
		return of(v, dots...)
	}
	return setOf(v, dots).form()
}

// near is a cloud that is changed at few places: mostly it stays in its form.
func (c *chance) near(a api.Cloud) api.Cloud {
	v, dots := slices.Clone(a.V), slices.Clone(a.Dots)
	for range c.below(4) {
		if len(dots) > 0 && c.below(2) == 0 {
			i := c.below(len(dots))
			dots = slices.Delete(dots, i, i+1)
		}
		if c.below(3) == 0 {
			dots = append(dots, c.dot())
		}
		if len(v) > 0 && c.below(2) == 0 {
			i := c.below(len(v))
			v[i] = max(v[i]-1, 0) + c.below(3)
		}
	}
	if c.below(6) == 0 || strange(v, dots) {
		return of(v, dots...)
	}
	return setOf(v, dots).form()
}

// asked are dots about those of a cloud, and some others.
func (c *chance) asked(a api.Cloud) []api.Dot {
	list := []api.Dot{c.dot(), c.dot()}
	for i, n := range a.V[:min(len(a.V), 17)] {
		list = append(list, dot(i+1, n), dot(i+1, min(n, lastNumber)+1))
	}
	for _, d := range a.Dots {
		list = append(list, d, dot(d.R, min(d.N, lastNumber)+1), dot(d.R, max(d.N, 0)-1))
	}
	return list
}

// P15.1 to P15.4: many clouds, beside the definitions of the chapter.
func TestManyClouds(t *testing.T) {
	c := chance(15)
	kinds := map[api.Errno]int{}
	within, joins := 0, 0
	for range 30000 {
		a := c.cloud()
		b := c.near(a)
		if c.below(3) == 0 {
			b = c.cloud()
		}
		checkOne(t, b, c.asked(b), []int{c.dot().R, c.dot().R})
		checkMake(t, c.numbers(), c.dots())
		checkMake(t, b.V, append(slices.Clone(b.Dots), c.dots()...))
		checkTwo(t, a, b)
		kinds[cloud.Check(b)]++
		if is, _ := cloud.Leq(a, b); is {
			within++
		}
		if _, err := cloud.Join(a, b); err == api.OK {
			joins++
		}
	}
	if kinds[api.OK] < 10000 || kinds[api.ErrArg] < 500 || kinds[api.ErrRange] < 500 || within < 3000 || joins < 10000 {
		t.Errorf("%v; %d are within another one, %d joins", kinds, within, joins)
	}
}

// P15.5: many clouds joined in two orders.
func TestManyJoins(t *testing.T) {
	c := chance(16)
	for range 3000 {
		var clouds []api.Cloud
		for range 2 + c.below(6) {
			a, err := cloud.Make([]int{c.below(6), c.below(6)}, setOf(nil, every(1+c.below(3), 1+c.below(9), 1+c.below(3), c.below(9))).form().Dots)
			if err != api.OK {
				t.Fatal(err)
			}
			clouds = append(clouds, a)
		}
		there, back := of(nil), of(nil)
		for i := range clouds {
			there, back = join(t, there, clouds[i]), join(t, clouds[len(clouds)-1-i], back)
		}
		if !same(there, back) {
			t.Fatalf("%v: %v, %v", clouds, there, back)
		}
		for _, a := range clouds {
			if !leq(t, a, there) || !same(join(t, a, there), there) {
				t.Fatalf("%v is not within %v", a, there)
			}
		}
	}
}

// P15.5: sets that become full of gaps, and full again, in a long trial of joins of many dots.
func TestManyGaps(t *testing.T) {
	c := chance(17)
	full, fits := 0, 0
	for range 20 {
		a := of(nil)
		for range 12 {
			b := setOf(nil, every(1+c.below(2), 1+c.below(6), 1+c.below(6), c.below(3000))).form()
			checkTwo(t, a, b)
			if both, err := cloud.Join(a, b); err == api.OK {
				a, fits = both, fits+1
			} else {
				full++
			}
		}
	}
	if full < 10 || fits < 50 {
		t.Errorf("%d were full, %d were not", full, fits)
	}
}
