package closure_test

import (
	"slices"
	"strconv"
	"testing"

	"entrepot/api"
	"entrepot/closure"
)

// chance makes choices of which none repeats soon, the same ones each time.
type chance uint64

// below returns a number from 0 on and below n.
func (c *chance) below(n int) int {
	*c = *c*6364136223846793005 + 1442695040888963407
	return int(uint64(*c)>>33) % n
}

// one returns one of a list.
func one[T any](c *chance, list ...T) T {
	return list[c.below(len(list))]
}

// seldom returns one of a list now and then, as often as asked, what is usual otherwise.
func seldom[T any](c *chance, often int, usual T, list ...T) T {
	if c.below(1000) < often {
		return one(c, list...)
	}
	return usual
}

// described is something out of what there is, mostly of these kinds, and mostly as it is; how often not is told for a thousand of them.
func (c *chance) described(list []api.Desc, wrong int, kinds ...int) api.Desc {
	kind := one(c, kinds...)
	fits := slices.DeleteFunc(slices.Clone(list), func(d api.Desc) bool { return d.Media != kind })
	if len(fits) == 0 {
		fits = list
	}
	d := seldom(c, wrong, one(c, fits...), list...)
	d.Media = seldom(c, wrong, d.Media, 0, 1, 2, 3, 4, 5)
	d.Size = seldom(c, wrong/2, d.Size, d.Size+1, 0, 4096)
	return d
}

// many is several things.
func (c *chance) many(n int, next func() api.Desc) []api.Desc {
	var list []api.Desc
	for range n {
		list = append(list, next())
	}
	return list
}

// populated is a shelf of a width with configs, layers, images and indices, some of which describe others wrong; and all of these.
func (c *chance) populated(t *testing.T, width, wrong int) (*shelf, []api.Desc) {
	t.Helper()
	x := newShelf(t, width)
	var list []api.Desc
	add := func(kind int, b []byte) {
		if x.put(b) {
			list = append(list, x.describe(kind, b))
		}
	}
	for n := range 3 + c.below(12) {
		add(1+n%2, []byte(strconv.Itoa(n)))
	}
	for n := range 2 + c.below(10) {
		m := api.Manifest{Kind: image, Title: strconv.Itoa(n), Config: c.described(list, wrong, config)}
		m.Layers = c.many(one(c, 0, 1, 2, 3, 16), func() api.Desc { return c.described(list, wrong, layer) })
		add(image, encoding(t, m))
	}
	for n := range 2 + c.below(14) {
		m := api.Manifest{Kind: index, Title: strconv.Itoa(n)}
		m.Subs = c.many(one(c, 0, 1, 2, 2, 3, 8), func() api.Desc { return c.described(list, wrong, image, index, index) })
		add(index, encoding(t, m))
	}
	for n := range c.below(3) {
		list = append(list, x.describe(1+c.below(4), []byte("absent "+strconv.Itoa(n))))
	}
	return x, list
}

// P13.1, P13.2: many stores, with much and with little that is wrong in them, beside the definitions of the chapter.
func TestManyStores(t *testing.T) {
	c := chance(13)
	came := map[api.Errno]int{}
	for n := range 1500 {
		x, list := c.populated(t, one(&c, 1, 2, 32), one(&c, 0, 10, 60))
		for range one(&c, 0, 0, 1, 4) {
			x.drop(one(&c, list...).ID)
		}
		for _, d := range list {
			came[x.check(d.ID)]++
		}
		for range 5 {
			x.checkMark(idsOf(c.many(c.below(5), func() api.Desc { return one(&c, list...) })...)...)
		}
		if n%10 == 0 {
			x.checkStore()
		}
	}
	for _, err := range []api.Errno{api.OK, api.ErrBlob, api.ErrSize, api.ErrDepth, api.ErrForm, api.ErrMedia} {
		if came[err] < 300 {
			t.Errorf("%v came %d times", err, came[err])
		}
	}
}

// wholes are the digests of a list whose closures are complete, with these.
func (x *shelf) wholes(list []api.Desc) map[api.ID][]api.ID {
	found := map[api.ID][]api.ID{}
	for _, d := range list {
		if ids, _, err := closure.Walk(x.s, d.ID); err == api.OK {
			found[d.ID] = ids
		}
	}
	return found
}

// still expects closures to be what they were.
func (x *shelf) still(wholes map[api.ID][]api.ID) {
	x.t.Helper()
	for id, ids := range wholes {
		if got, wrong, err := closure.Walk(x.s, id); !slices.Equal(got, ids) || wrong != (api.ID{}) || err != api.OK {
			x.t.Fatalf("Walk(%x) = %x, %x, %v, not %x any more", id[:3], got, wrong, err, ids)
		}
	}
}

// P13.3: each digest of a complete closure is stored, with its blob, and is in Mark; without one of its blobs it is not complete.
func TestCompleteClosures(t *testing.T) {
	c := chance(14)
	count := 0
	for range 300 {
		x, list := c.populated(t, one(&c, 1, 2, 32), 20)
		for id, ids := range x.wholes(list) {
			count++
			marks := closure.Mark(x.s, []api.ID{id})
			for _, below := range ids {
				b, stored := x.s.Get(below)
				if !stored || x.digest(b) != below || !slices.Contains(marks, below) {
					t.Fatalf("%x of %x: %v, %v", below[:3], id[:3], b, stored)
				}
				x.s.Drop(below)
				if got, wrong, err := closure.Walk(x.s, id); len(got) != 0 || wrong != below || err != api.ErrBlob || closure.Whole(x.s, id) {
					t.Fatalf("%x without %x: %x, %x, %v", id[:3], below[:3], got, wrong, err)
				}
				x.s.Put(below, b)
			}
		}
		x.checkStore()
	}
	if count < 1000 {
		t.Errorf("%d were complete", count)
	}
}

// P13.3: whatever else is stored changes nothing of a complete closure.
func TestOtherBlobs(t *testing.T) {
	c := chance(15)
	for range 200 {
		x, list := c.populated(t, one(&c, 1, 2, 32), 20)
		before := x.wholes(list)
		for n := range 20 {
			x.put([]byte("other " + strconv.Itoa(n)))
			x.put(encoding(t, api.Manifest{Kind: index, Title: "other " + strconv.Itoa(n), Subs: []api.Desc{one(&c, list...)}}))
			x.still(before)
		}
		for id, ids := range before {
			alone := newShelf(t, x.width)
			for _, below := range ids {
				alone.put(x.blobs[below])
			}
			alone.still(map[api.ID][]api.ID{id: ids})
		}
	}
}

// P13.3: what Mark does not return is dropped, and all closures that were complete, of the manifests that it was given, still are; and what it returns stays the same.
func TestDroppedBlobs(t *testing.T) {
	c := chance(16)
	dropped, kept := 0, 0
	for range 600 {
		x, list := c.populated(t, one(&c, 1, 2, 32), one(&c, 0, 20, 60))
		roots := c.many(1+c.below(4), func() api.Desc { return one(&c, list...) })
		before := x.wholes(roots)
		marks := closure.Mark(x.s, idsOf(roots...))
		for _, id := range x.s.IDs() {
			if !slices.Contains(marks, id) {
				x.drop(id)
				dropped++
			}
		}
		x.still(before)
		kept += len(before)
		if again := closure.Mark(x.s, idsOf(roots...)); !slices.Equal(again, marks) {
			t.Fatalf("%x, not %x any more", again, marks)
		}
	}
	if dropped < 1000 || kept < 300 {
		t.Errorf("%d were dropped, %d are complete", dropped, kept)
	}
}
