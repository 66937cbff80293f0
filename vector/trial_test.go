package vector_test

import (
	"slices"
	"testing"

	"entrepot/api"
	"entrepot/vector"
)

// chance makes choices of which none repeats soon, the same ones each time.
type chance uint64

// below returns a number from 0 on and below n.
func (c *chance) below(n int) int {
	*c = *c*6364136223846793005 + 1442695040888963407
	return int(uint64(*c)>>33) % n
}

// one returns one of a list.
func one(c *chance, list ...int) int {
	return list[c.below(len(list))]
}

// number is mostly a small one, seldom a negative or a great one.
func (c *chance) number() int {
	switch c.below(10) {
	case 0:
		return -c.below(100)
	case 1:
		return one(c, heaviest, heaviest-1, heaviest/8, greatest, least, 1<<20)
	case 2:
		return c.below(1 << 20)
	}
	return c.below(6)
}

// vector is a list of numbers, seldom more than there are regions.
func (c *chance) vector() []int {
	list := make([]int, c.below(one(c, 3, 6, 17, 17, 50)))
	for i := range list {
		list[i] = c.number()
	}
	return list
}

// near is a vector, changed at few places, or with a few numbers more or less.
func (c *chance) near(v []int) []int {
	list := slices.Clone(v)
	for range c.below(3) {
		if len(list) > 0 {
			i := c.below(len(list))
			list[i] = one(c, list[i], max(list[i], 1)-1, min(list[i], greatest-1)+1, 0, -1)
		}
	}
	for range c.below(3) {
		list = append(list, one(c, 0, 0, -1, 1))
	}
	return list[:len(list)-min(len(list), one(c, 0, 0, 1, 2))]
}

// dot is one of a region and a number about those of a vector.
func (c *chance) dot(v []int) api.Dot {
	r := c.below(len(v)+4) - 1
	return dot(r, one(c, number(v, r), max(number(v, r), 1)-1, min(number(v, r), greatest-1)+1, c.number()))
}

// P14.1 to P14.3: many vectors of all lengths, beside the definitions of the chapter.
func TestManyVectors(t *testing.T) {
	c := chance(14)
	leq, same, less := 0, 0, 0
	for range 60000 {
		v := c.vector()
		w := c.near(v)
		if c.below(4) == 0 {
			w = c.vector()
		}
		d, e := c.dot(v), c.dot(w)
		checkOne(t, v, d.R, d)
		checkTwo(t, v, w)
		checkOrder(t, d, v, e, w)
		if vector.Leq(v, w) {
			leq++
		}
		if vector.Same(v, w) {
			same++
		}
		if vector.Less(d, v, e, w) {
			less++
		}
	}
	if leq < 5000 || same < 5000 || less < 5000 {
		t.Errorf("%d are at most another one, %d the same, %d before", leq, same, less)
	}
}

// P14.4: joins and meets of many vectors do not depend on the order of these.
func TestManyJoins(t *testing.T) {
	c := chance(15)
	for range 4000 {
		var vectors [][]int
		for range 2 + c.below(5) {
			vectors = append(vectors, c.vector())
		}
		join, meet := slices.Clone(vectors[0]), slices.Clone(vectors[0])
		for _, v := range vectors[1:] {
			join, meet = vector.Join(join, v), vector.Meet(meet, v)
		}
		back, low := vectors[len(vectors)-1], vectors[len(vectors)-1]
		for _, v := range slices.Backward(vectors[:len(vectors)-1]) {
			back, low = vector.Join(v, back), vector.Meet(v, low)
		}
		if !slices.Equal(join, back) || !slices.Equal(meet, low) {
			t.Fatalf("%v: %v, %v; %v, %v", vectors, join, back, meet, low)
		}
		for _, v := range vectors {
			if !vector.Leq(v, join) || !vector.Leq(meet, v) {
				t.Fatalf("%v: %v, %v", v, join, meet)
			}
		}
	}
}

// P14.5: regions that make events of what they have delivered, and deliver those of others: sorted by the order, each event comes after all that it depends on, and any other way to sort them gives the same list.
func TestHistories(t *testing.T) {
	c := chance(16)
	for range 200 {
		n := 1 + c.below(mostRegions)
		rows := make([][]int, n)
		var events []event
		for range 60 {
			r := c.below(n)
			if c.below(3) == 0 {
				rows[r] = vector.Join(rows[r], rows[c.below(n)])
				continue
			}
			d := vector.Next(rows[r], r+1)
			events = append(events, event{d, rows[r]})
			rows[r] = vector.With(rows[r], d)
		}
		checkHistory(t, events)
	}
}

// checkHistory sorts events from two beginnings, and expects one list, in which causes come first.
func checkHistory(t *testing.T, events []event) {
	t.Helper()
	compare := func(x, y event) int {
		if vector.Less(x.d, x.deps, y.d, y.deps) {
			return -1
		}
		if vector.Less(y.d, y.deps, x.d, x.deps) {
			return 1
		}
		return 0
	}
	sorted, back := slices.Clone(events), slices.Clone(events)
	slices.Reverse(back)
	slices.SortStableFunc(sorted, compare)
	slices.SortStableFunc(back, compare)
	var seen []int
	for i, e := range sorted {
		if e.d != back[i].d {
			t.Fatalf("%v and %v are both at %d", e, back[i], i)
		}
		if !vector.Leq(e.deps, seen) {
			t.Fatalf("%v comes ahead of what it depends on", e)
		}
		if seen = vector.With(seen, e.d); !vector.Has(seen, e.d) {
			t.Fatalf("%v: without %v", seen, e.d)
		}
	}
}
