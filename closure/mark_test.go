package closure_test

import (
	"math"
	"slices"
	"strconv"
	"testing"

	"entrepot/api"
	"entrepot/closure"
)

// P13.2: digests that are given are returned, stored or not, in their order, each once.
func TestMarkGiven(t *testing.T) {
	x, c, l, m, i := small(t, 32)
	x.marks(nil)
	x.marks([]api.ID{})
	x.marks([]api.ID{{9}}, api.Desc{ID: api.ID{9}})
	x.marks([]api.ID{{}}, api.Desc{})
	x.marks([]api.ID{{9}, {3}, {9}, {31: 1}, {}, {3}}, api.Desc{}, api.Desc{ID: api.ID{31: 1}}, api.Desc{ID: api.ID{3}}, api.Desc{ID: api.ID{9}})
	x.marks(idsOf(l, c), c, l)
	x.marks(idsOf(m), c, l, m)
	x.marks(idsOf(i), c, l, m, i)
	x.marks(idsOf(m, i, m, c), c, l, m, i)
	x.marks(idsOf(i, m, i, l), c, l, m, i)
	x.drop(i.ID)
	x.marks(idsOf(i), i)
	x.marks(idsOf(i, m), i, c, l, m)
}

// P13.2: sizes and kinds are no errors, and what is described as something else than a manifest is returned, but not followed.
func TestMarkDescriptions(t *testing.T) {
	x, c, l, m, i := small(t, 32)
	for _, size := range []int{0, 1, m.Size - 1, m.Size, m.Size + 1, 4097, math.MaxInt} {
		for _, kind := range []int{0, 1, 2, 3, 4, 5, 6, 77, 259, 260, math.MaxInt} {
			as := api.Desc{Media: kind, ID: m.ID, Size: size}
			asIndex := api.Desc{Media: kind, ID: i.ID, Size: size}
			top, over := x.keepIndex("top", as), x.keepImage("over", asIndex)
			if kind == image || kind == index {
				x.marks(idsOf(top), c, l, m, top)
				x.marks(idsOf(over), c, l, m, i, over)
			} else {
				x.marks(idsOf(top), m, top)
				x.marks(idsOf(over), i, over)
			}
		}
	}
	zeros := x.keepImage("zeros", api.Desc{}, api.Desc{Media: layer}, l)
	x.marks(idsOf(zeros), api.Desc{}, l, zeros)
	none := x.keep(index, []byte("none"))
	x.marks(idsOf(x.keepIndex("none", none)), none, x.keepIndex("none", none))
}

// P13.2: what is described at the depth 4 is returned, but not followed, unless it is reached from further above as well.
func TestMarkDepths(t *testing.T) {
	x, list := chain(t, 12)
	last := len(list) - 1
	for n := 2; n <= 5; n++ {
		x.marks(idsOf(list[n]), list[:n+1]...)
	}
	for n := 6; n <= last; n++ {
		x.marks(idsOf(list[n]), list[n-4:n+1]...)
	}
	for n := 5; n <= last-6; n++ {
		x.marks(idsOf(list[last], list[last-n]), slices.Concat(list[last-4:], list[last-n-4:last-n+1])...)
		x.marks(idsOf(list[last-n], list[last]), slices.Concat(list[last-4:], list[last-n-4:last-n+1])...)
	}
	for n := 1; n <= 5; n++ {
		x.marks(idsOf(list[last], list[last-n]), list[last-n-4:]...)
		x.marks(idsOf(list[last-n], list[last]), list[last-n-4:]...)
	}
	x.marks(idsOf(list[last], list[2]), append(slices.Clone(list[last-4:]), list[:3]...)...)
	for above := range last {
		x.checkMark(list[above].ID, list[last].ID)
		x.checkMark(list[last].ID, list[above].ID, list[last-1].ID)
	}
}

// P13.2: a digest that is reached twice, at two depths, is followed from the lesser one, whichever comes first.
func TestMarkTwice(t *testing.T) {
	for depth := 1; depth <= 5; depth++ {
		for other := 1; other <= 5; other++ {
			x, list := chain(t, 6)
			low := list[len(list)-1]
			lift := func(d api.Desc, depth int, title string) api.Desc {
				for n := range depth - 2 {
					d = x.keepIndex(title+strconv.Itoa(n), d)
				}
				return d
			}
			a, b := lift(low, depth, "a"), lift(low, other, "b")
			x.checkMark(a.ID, b.ID)
			x.checkMark(b.ID, a.ID)
			top := x.keepIndex("top", a, b)
			x.checkMark(top.ID)
			x.checkMark(top.ID, low.ID)
			asLayer := api.Desc{Media: layer, ID: low.ID}
			x.checkMark(x.keepImage("ahead", asLayer, a).ID)
			x.checkMark(x.keepImage("behind", a, asLayer).ID)
		}
	}
}

// P13.2: many manifests that share most of what is below them.
func TestMarkShared(t *testing.T) {
	x := newShelf(t, 32)
	level := []api.Desc{x.keep(layer, []byte("layer"))}
	all := slices.Clone(level)
	for depth := range 7 {
		var above []api.Desc
		for n := range 8 {
			title := strconv.Itoa(depth) + "." + strconv.Itoa(n)
			if depth == 0 {
				above = append(above, x.keepImage(title, level[0], level...))
			} else {
				above = append(above, x.keepIndex(title, level...))
			}
		}
		level = above
		all = append(all, above...)
	}
	x.marks(idsOf(all...), all...)
	slices.Reverse(all)
	x.marks(idsOf(all...), all...)
	x.marks(idsOf(all[:8]...), all[:40]...)
	many := slices.Repeat(idsOf(all...), 100)
	if got := closure.Mark(x.s, many); !slices.Equal(got, rising(many...)) {
		t.Errorf("%d digests", len(got))
	}
}
