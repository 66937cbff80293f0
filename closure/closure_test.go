package closure_test

import (
	"fmt"
	"math"
	"slices"
	"strconv"
	"strings"
	"testing"

	"entrepot/api"
	"entrepot/blob"
	"entrepot/closure"
)

// small is a shelf with a config, a layer, an image of both and an index of that.
func small(t *testing.T, width int) (x *shelf, c, l, m, i api.Desc) {
	t.Helper()
	x = newShelf(t, width)
	c, l = x.keep(config, []byte("{}")), x.keep(layer, []byte("layer"))
	m = x.keepImage("app", c, l)
	i = x.keepIndex("apps", m)
	return x, c, l, m, i
}

// P13.1, P13.2: the examples of the chapter.
func TestExamples(t *testing.T) {
	x, c, l, m, i := small(t, 32)
	x.complete(m.ID, c, l, m)
	x.complete(i.ID, c, l, m, i)
	x.fails(l.ID, l.ID, api.ErrForm)
	x.fails(api.ID{9}, api.ID{9}, api.ErrBlob)
	x.drop(l.ID)
	x.fails(i.ID, l.ID, api.ErrBlob)
	x.marks(idsOf(i), c, l, m, i)
	x.drop(m.ID)
	x.marks(idsOf(i), m, i)
	x, _, _, m, _ = small(t, 32)
	m.Size++
	x.fails(x.keepIndex("wrong", m).ID, m.ID, api.ErrSize)
}

// P13.1, P13.2: no store, and stores that New did not return.
func TestNoStore(t *testing.T) {
	x, c, l, m, i := small(t, 32)
	copied := *x.s
	for _, d := range []api.Desc{c, l, m, i, {}} {
		if got, wrong, err := closure.Walk(nil, d.ID); len(got) != 0 || wrong != (api.ID{}) || err != api.ErrNil {
			t.Errorf("Walk without a store: %v, %v, %v", got, wrong, err)
		}
		for _, s := range []*blob.Store{{}, &copied} {
			if got, wrong, err := closure.Walk(s, d.ID); len(got) != 0 || wrong != d.ID || err != api.ErrBlob {
				t.Errorf("Walk of an invalid store: %v, %v, %v", got, wrong, err)
			}
		}
	}
	list := idsOf(i, c, m, i, l, i)
	for _, s := range []*blob.Store{nil, {}, &copied} {
		if closure.Whole(s, i.ID) {
			t.Error("something is whole in no store")
		}
		if got := closure.Mark(s, list); !slices.Equal(got, rising(list...)) {
			t.Errorf("Mark in no store: %x", got)
		}
		if got := closure.Mark(s, idsOf(i)); !slices.Equal(got, idsOf(i)) {
			t.Errorf("Mark in no store: %x", got)
		}
		if got := closure.Mark(s, nil); len(got) != 0 {
			t.Errorf("Mark of nothing: %x", got)
		}
	}
}

// P13.1: what a closure is, in each width, whatever else is stored.
func TestClosures(t *testing.T) {
	for width := 3; width <= 32; width++ {
		x, c, l, m, i := small(t, width)
		k, n := x.keep(layer, nil), x.keep(layer, []byte("more"))
		o := x.keepImage("two", c, l, k, n)
		p := x.keepIndex("none")
		q := x.keepIndex("all", p, o, m, i)
		r := x.keepImage("one", c)
		x.complete(m.ID, c, l, m)
		x.complete(i.ID, c, l, m, i)
		x.complete(o.ID, c, l, k, n, o)
		x.complete(p.ID, p)
		x.complete(q.ID, q, p, o, c, l, k, n, m, i)
		x.complete(r.ID, c, r)
		x.fails(c.ID, c.ID, api.ErrForm)
		x.fails(k.ID, k.ID, api.ErrForm)
		x.fails(n.ID, n.ID, api.ErrForm)
		x.fails(api.ID{}, api.ID{}, api.ErrBlob)
		x.checkStore()
	}
}

// P13.1: each digest once, however often it is described, and as whatever.
func TestEachOnce(t *testing.T) {
	x, c, l, m, i := small(t, 32)
	asLayer := api.Desc{Media: layer, ID: c.ID, Size: c.Size}
	asConfig := api.Desc{Media: config, ID: l.ID, Size: l.Size}
	twice := x.keepImage("twice", c, l, l, asLayer, asConfig, l)
	x.complete(twice.ID, c, l, twice)
	same := x.keepIndex("same", m, m, m, m, m, m, m, m)
	x.complete(same.ID, c, l, m, same)
	shared := x.keepIndex("shared", i, m, i, same, m)
	x.complete(shared.ID, c, l, m, i, same, shared)
	most := same
	for n := range 2 {
		most = x.keepIndex("most"+strconv.Itoa(n), slices.Repeat([]api.Desc{most}, 8)...)
	}
	if ids, _, err := closure.Walk(x.s, most.ID); len(ids) != 6 || err != api.OK {
		t.Errorf("%d digests, %v", len(ids), err)
	}
	x.check(most.ID)
}

// P13.1, P13.2: it does not matter what a blob looks like, but as what it is described.
func TestAsDescribed(t *testing.T) {
	x, c, l, m, i := small(t, 32)
	as := func(d api.Desc, kind int) api.Desc { return api.Desc{Media: kind, ID: d.ID, Size: d.Size} }
	ends := x.keepImage("ends", as(m, config), as(i, layer), as(i, config))
	x.complete(ends.ID, m, i, ends)
	x.marks(idsOf(ends), m, i, ends)
	both := x.keepImage("both", as(i, config), as(i, layer), i, as(i, layer))
	x.complete(both.ID, both, i, m, c, l)
	x.marks(idsOf(both), both, i, m, c, l)
	before := x.keepImage("before", i, as(i, layer))
	x.complete(before.ID, before, i, m, c, l)
	x.marks(idsOf(before), before, i, m, c, l)
	subs := x.keepIndex("subs", c, l, as(m, layer))
	x.complete(subs.ID, subs, c, l, m)
	x.marks(idsOf(subs), subs, c, l, m)
	x.drop(l.ID)
	x.complete(ends.ID, m, i, ends)
	x.fails(both.ID, l.ID, api.ErrBlob)
	x.marks(idsOf(ends), m, i, ends)
	x.marks(idsOf(both), both, i, m, c, l)
}

// P13.1: the first thing is no matter of its size and kind, but of its bytes.
func TestFirstThing(t *testing.T) {
	x, c, l, m, i := small(t, 32)
	x.complete(m.ID, c, l, m)
	x.complete(i.ID, c, l, m, i)
	for _, d := range []api.Desc{m, i} {
		b := x.blobs[d.ID]
		for n := range b {
			cut := x.keep(0, b[:n])
			x.fails(cut.ID, cut.ID, api.ErrForm)
			x.marks(idsOf(cut), cut)
		}
		for _, more := range []string{"\x00", "M", "\xff", "\x00\x00", string(b)} {
			longer := x.keep(0, append(slices.Clone(b), more...))
			x.fails(longer.ID, longer.ID, api.ErrForm)
			x.marks(idsOf(longer), longer)
		}
	}
	long := x.keepIndex(strings.Repeat("t", 4000), m)
	x.complete(long.ID, c, l, m, long)
}

// chain is a shelf, and indices of which each describes the one before it; the first one describes an image.
func chain(t *testing.T, n int) (*shelf, []api.Desc) {
	t.Helper()
	x, c, l, m, i := small(t, 32)
	list := []api.Desc{c, l, m, i}
	for len(list) < n+3 {
		list = append(list, x.keepIndex(strconv.Itoa(len(list)), list[len(list)-1]))
	}
	return x, list
}

// P13.1: the depth 4 is walked, the depth 5 is not, but a config and layers may be there.
func TestDepths(t *testing.T) {
	x, list := chain(t, 8)
	m := list[2]
	x.complete(list[3].ID, list[:4]...)
	x.complete(list[4].ID, list[:5]...)
	x.complete(list[5].ID, list[:6]...)
	for n := 6; n < len(list); n++ {
		x.fails(list[n].ID, list[n-4].ID, api.ErrDepth)
	}
	last := x.keepIndex("last")
	for range 3 {
		last = x.keepIndex("above", last)
	}
	if !closure.Whole(x.s, last.ID) {
		t.Error("an index at the depth 4 is not whole")
	}
	x.fails(x.keepIndex("above all", last).ID, x.describe(index, encoding(t, api.Manifest{Kind: index, Title: "last"})).ID, api.ErrDepth)
	for _, broken := range []api.Desc{{Media: image, ID: m.ID, Size: m.Size + 1}, {Media: image, ID: api.ID{7}}, {Media: index, ID: m.ID, Size: m.Size}, x.keep(image, []byte("none"))} {
		top := broken
		for n := range 4 {
			top = x.keepIndex("over"+strconv.Itoa(n), top)
		}
		want := api.ErrDepth
		if _, stored := x.blobs[broken.ID]; !stored {
			want = api.ErrBlob
		} else if broken.Size != len(x.blobs[broken.ID]) {
			want = api.ErrSize
		}
		x.fails(top.ID, broken.ID, want)
	}
}

// P13.1: more than 256 digests, but not more than 256 visits; any error of a thing is ahead of that.
func TestManyDigests(t *testing.T) {
	for _, n := range []int{1, 2, 3, 18, 19, 20, 100, 200, 254, 255, 256, 257, 258, 259, 300, 512, 513, 1000, 1100} {
		x := newShelf(t, 32)
		top := x.fill(n)
		if len(x.blobs) != n {
			t.Fatalf("%d blobs, not %d", len(x.blobs), n)
		}
		if n <= mostRefs {
			x.complete(top.ID, x.all()...)
		} else {
			x.fails(top.ID, top.ID, api.ErrLong)
		}
		x.marks(idsOf(top), x.all()...)
		for _, id := range x.s.IDs()[:min(n, 9)] {
			y := x.copy()
			y.drop(id)
			y.fails(top.ID, id, api.ErrBlob)
		}
		again := x.keepIndex("again", top, top, top)
		if n < mostRefs {
			x.complete(again.ID, x.all()...)
		} else {
			x.fails(again.ID, again.ID, api.ErrLong)
		}
	}
}

// fill stores a closure of n digests, and describes its manifest.
func (x *shelf) fill(n int) api.Desc {
	x.t.Helper()
	title := strconv.Itoa(len(x.blobs))
	if n == 1 {
		return x.keepIndex(title)
	}
	if n <= 18 {
		var things []api.Desc
		for range n - 1 {
			things = append(things, x.keep(layer, fmt.Append(nil, "layer ", len(x.blobs))))
		}
		things[0].Media = config
		return x.keepImage(title, things[0], things[1:]...)
	}
	var subs []api.Desc
	for i := range 8 {
		if part := (n - 1 + i) / 8; part > 0 {
			subs = append(subs, x.fill(part))
		}
	}
	return x.keepIndex(title, subs...)
}

// all is something of each digest that is stored.
func (x *shelf) all() []api.Desc {
	var list []api.Desc
	for id := range x.blobs {
		list = append(list, api.Desc{ID: id})
	}
	return list
}

// P13.1: digests of a small width may have themselves below them, and still each call ends.
func TestCycles(t *testing.T) {
	for _, size := range []int{0, 1, -1} {
		x := newShelf(t, 1)
		self := x.selfish(index, size)
		want := api.ErrDepth
		if size != 0 {
			want = api.ErrSize
		}
		x.fails(self.ID, self.ID, want)
		x.marks(idsOf(self), self)
		x = newShelf(t, 1)
		self = x.selfish(layer, size)
		if size == 0 {
			x.complete(self.ID, self)
		} else {
			x.fails(self.ID, self.ID, api.ErrSize)
		}
		x.marks(idsOf(self), self)
	}
}

// selfish stores an index of eight times its own digest, which is described as of a kind, and with a size that is its own and more.
func (x *shelf) selfish(kind, more int) api.Desc {
	x.t.Helper()
	for n := range 100000 {
		m := api.Manifest{Kind: index, Title: strconv.Itoa(100000 + n)}
		d := api.Desc{Media: kind, ID: api.ID{byte(n)}}
		m.Subs = slices.Repeat([]api.Desc{d}, 8)
		for d.Size != len(encoding(x.t, m))+more {
			d.Size = len(encoding(x.t, m)) + more
			m.Subs = slices.Repeat([]api.Desc{d}, 8)
		}
		if b := encoding(x.t, m); x.digest(b) == d.ID {
			return x.keep(index, b)
		}
	}
	x.t.Fatal("no index of itself")
	return api.Desc{}
}

// P13.1, P13.2: answers are new memory; no argument is changed or looked at beyond its end, and neither is the store.
func TestMemory(t *testing.T) {
	x, list := chain(t, 3)
	top := list[len(list)-1].ID
	want, _, _ := closure.Walk(x.s, top)
	want = slices.Clone(want)
	for range 3 {
		got, _, _ := closure.Walk(x.s, top)
		if !slices.Equal(got, want) {
			t.Fatalf("%x, not %x", got, want)
		}
		clear(append(got, api.ID{1})[:cap(got)])
	}
	from := make([]api.ID, 3, 6)
	copy(from[:6], []api.ID{top, list[0].ID, top, list[2].ID, {4}, {5}})
	before := slices.Clone(from[:6])
	marks := x.mark(from)
	for range 3 {
		got := closure.Mark(x.s, from)
		if !slices.Equal(got, marks) {
			t.Fatalf("%x, not %x", got, marks)
		}
		clear(append(got, api.ID{1})[:cap(got)])
		if !slices.Equal(from[:6], before) {
			t.Fatalf("%x was %x", from[:6], before)
		}
	}
	x.checkStore()
}

// P13.1: descriptions of whatever kind, of whatever bytes, with whatever size, at each depth and in each place.
func TestDescriptions(t *testing.T) {
	sizes := []func(n int) int{
		func(n int) int { return n }, func(n int) int { return n + 1 }, func(n int) int { return max(0, n-1) }, func(n int) int { return 0 },
		func(n int) int { return n + 256 }, func(n int) int { return n + 1<<32 }, func(n int) int { return math.MaxInt },
	}
	came := map[api.Errno]int{}
	for _, kind := range []int{0, 1, 2, 3, 4, 5, 6, 7, 77, 257, 259, 1<<32 + 3, 1<<32 + 4, math.MaxInt} {
		for what := range 8 {
			for _, size := range sizes {
				for depth := 2; depth <= 6; depth++ {
					x, c, l, m, i := small(t, 32)
					b := [][]byte{nil, []byte("other"), x.blobs[m.ID], x.blobs[i.ID], x.blobs[m.ID][1:], x.blobs[l.ID], []byte("absent"), append(slices.Clone(x.blobs[i.ID]), 0)}[what]
					if what != 6 {
						x.put(b)
					}
					d := x.describe(kind, b)
					d.Size = size(len(b))
					tops := []api.Desc{x.keepIndex("top", d), x.keepIndex("top", m, d, m), x.keepImage("top", d), x.keepImage("top", c, l, d, api.Desc{})}
					for _, top := range tops {
						for range depth - 2 {
							top = x.keepIndex("above", top)
						}
						came[x.check(top.ID)]++
					}
				}
			}
		}
	}
	for _, err := range []api.Errno{api.OK, api.ErrBlob, api.ErrSize, api.ErrDepth, api.ErrForm, api.ErrMedia} {
		if came[err] < 50 {
			t.Errorf("%v came %d times", err, came[err])
		}
	}
}
