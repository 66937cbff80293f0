package closure_test

import (
	"slices"
	"strconv"
	"testing"

	"entrepot/api"
	"entrepot/closure"
)

// What can be wrong with a thing.
const (
	nothing = iota
	absent
	otherSize
	noManifest
	otherKind
	noKind
	wrongs
)

// errorsOf is the error of each of these.
func errorsOf() [wrongs]api.Errno {
	return [wrongs]api.Errno{absent: api.ErrBlob, otherSize: api.ErrSize, noManifest: api.ErrForm, otherKind: api.ErrMedia, noKind: api.ErrMedia}
}

// node is a thing that is to be stored: its kind, what is below it, and what is wrong with it.
type node struct {
	kind  int
	below []*node
	wrong int
	made  api.Desc
}

func leaf(kind int) *node                 { return &node{kind: kind} }
func manifest(kind int, l ...*node) *node { return &node{kind: kind, below: l} }

// aTree is an index of four levels, with things at each of them.
func aTree() *node {
	deep := manifest(index, manifest(index, manifest(image, leaf(config), leaf(layer)), manifest(image, leaf(config))))
	return manifest(index, manifest(image, leaf(config), leaf(layer), leaf(layer)), deep, manifest(image, leaf(config)))
}

// nodes is a node and all below it, each ahead of what is below it, and that ahead of the next one.
func (n *node) nodes() []*node {
	list := []*node{n}
	for _, b := range n.below {
		list = append(list, b.nodes()...)
	}
	return list
}

// can reports whether something can be wrong with a node.
func (n *node) can(wrong int, isTop bool) bool {
	switch wrong {
	case otherSize, noKind:
		return !isTop
	case noManifest:
		return len(n.below) > 0
	case otherKind:
		return !isTop && len(n.below) > 0
	}
	return true
}

// build stores a node and all below it, with what is wrong, and describes it. Each node has bytes of its own.
func (x *shelf) build(n *node, number *int) api.Desc {
	x.t.Helper()
	*number++
	title := strconv.Itoa(*number)
	var below []api.Desc
	for _, b := range n.below {
		below = append(below, x.build(b, number))
	}
	switch {
	case len(below) == 0 || n.wrong == noManifest:
		n.made = x.keep(n.kind, []byte("bytes of "+title))
	case n.kind == image:
		n.made = x.keepImage(title, below[0], below[1:]...)
	default:
		n.made = x.keepIndex(title, below...)
	}
	switch n.wrong {
	case absent:
		x.drop(n.made.ID)
	case otherSize:
		n.made.Size++
	case otherKind:
		n.made.Media = image + index - n.kind
	case noKind:
		n.made.Media = 5
	}
	return n.made
}

// P13.1: of two things with errors, the one that is walked first counts, whatever its error is.
func TestTwoErrors(t *testing.T) {
	count := len(aTree().nodes())
	for first := range count {
		for second := first; second < count; second++ {
			for wrong := absent; wrong < wrongs; wrong++ {
				for other := absent; other < wrongs; other++ {
					top := aTree()
					list := top.nodes()
					if !list[first].can(wrong, first == 0) || !list[second].can(other, second == 0) {
						continue
					}
					list[second].wrong = other
					list[first].wrong = wrong
					x, number := newShelf(t, 32), 0
					x.build(top, &number)
					x.fails(top.made.ID, list[first].made.ID, errorsOf()[wrong])
				}
			}
			if t.Failed() {
				t.FailNow()
			}
		}
	}
}

// P13.1, P13.3: whichever blobs of a closure are absent, the first one in the order of the walk is told; none: all is whole.
func TestAbsentBlobs(t *testing.T) {
	shape := func() *node {
		return manifest(index, manifest(index, manifest(image, leaf(config), leaf(layer)), manifest(image, leaf(config))), manifest(image, leaf(config), leaf(layer)))
	}
	count := len(shape().nodes())
	for set := range 1 << count {
		if testing.Short() && set%5 > 0 {
			continue
		}
		x, number, top := newShelf(t, 32), 0, shape()
		x.build(top, &number)
		var gone []api.ID
		for i, n := range top.nodes() {
			if set>>i&1 == 1 {
				gone = append(gone, n.made.ID)
				x.drop(n.made.ID)
			}
		}
		if set == 0 {
			x.complete(top.made.ID, x.all()...)
		} else {
			x.fails(top.made.ID, gone[0], api.ErrBlob)
		}
		for _, n := range top.nodes() {
			x.check(n.made.ID)
		}
	}
}

// P13.1: errors of a thing, and too many digests: the error counts, even of the last thing of all.
func TestErrorAheadOfNumber(t *testing.T) {
	x := newShelf(t, 32)
	many := x.fill(300)
	for _, last := range []struct {
		d   api.Desc
		err api.Errno
	}{
		{api.Desc{Media: layer, ID: api.ID{1}}, api.ErrBlob},
		{api.Desc{Media: image, ID: many.ID, Size: many.Size}, api.ErrMedia},
		{api.Desc{Media: index, ID: many.ID, Size: many.Size - 1}, api.ErrSize},
		{x.keep(image, []byte("none")), api.ErrForm},
		{api.Desc{Media: 9, ID: many.ID, Size: many.Size}, api.ErrMedia},
	} {
		x.fails(x.keepIndex("last", many, last.d).ID, last.d.ID, last.err)
	}
	x.fails(x.keepIndex("none", many).ID, x.keepIndex("none", many).ID, api.ErrLong)
}

// P13.1: digests come in the order of their bytes, whichever way they were walked.
func TestOrderOfDigests(t *testing.T) {
	for shift := range 17 {
		x := newShelf(t, 32)
		var things []api.Desc
		for n := range 17 {
			things = append(things, x.keep(layer, []byte(strconv.Itoa((n+shift)%17))))
		}
		top := x.keepImage("top", things[0], things[1:]...)
		got, _, _ := closure.Walk(x.s, top.ID)
		if !slices.Equal(got, rising(append(idsOf(things...), top.ID)...)) || len(got) != 18 {
			t.Fatalf("%x", got)
		}
		x.marks(idsOf(top), append(things, top)...)
	}
}
