package closure_test

import (
	"bytes"
	"crypto/sha256"
	"maps"
	"slices"
	"testing"

	"entrepot/api"
	"entrepot/blob"
	"entrepot/closure"
	"entrepot/media"
)

// The kinds and limits of the chapter, in numbers of the tests' own.
const (
	config   = 1
	layer    = 2
	image    = 3
	index    = 4
	deepest  = 4
	mostRefs = 256
)

// shelf is a store, and beside it all that is stored there, with the digests of the tests' own library.
type shelf struct {
	t     *testing.T
	s     *blob.Store
	width int
	blobs map[api.ID][]byte
}

func newShelf(t *testing.T, width int) *shelf {
	t.Helper()
	s, err := blob.New(width, 1<<26)
	if s == nil || err != api.OK {
		t.Fatalf("New(%d) = %v, %v", width, s, err)
	}
	return &shelf{t, s, width, map[api.ID][]byte{}}
}

// digest is the digest of bytes, truncated to the width.
func (x *shelf) digest(b []byte) api.ID {
	id := api.ID(sha256.Sum256(b))
	clear(id[x.width:])
	return id
}

// put stores bytes, if nothing else is stored under their digest, and reports whether they are stored.
func (x *shelf) put(b []byte) bool {
	x.t.Helper()
	id := x.digest(b)
	if other, is := x.blobs[id]; is {
		return bytes.Equal(other, b)
	}
	if _, err := x.s.Put(id, b); err != api.OK {
		x.t.Fatalf("%d bytes are not stored: %v", len(b), err)
	}
	x.blobs[id] = slices.Clone(b)
	return true
}

// keep stores bytes, and describes them.
func (x *shelf) keep(kind int, b []byte) api.Desc {
	x.t.Helper()
	if !x.put(b) {
		x.t.Fatalf("something else is stored under the digest of %.100q", b)
	}
	return x.describe(kind, b)
}

// describe describes bytes that need not be stored.
func (x *shelf) describe(kind int, b []byte) api.Desc {
	return api.Desc{Media: kind, ID: x.digest(b), Size: len(b)}
}

// keepImage and keepIndex store a manifest, and describe it.
func (x *shelf) keepImage(title string, c api.Desc, layers ...api.Desc) api.Desc {
	x.t.Helper()
	return x.keep(image, encoding(x.t, api.Manifest{Kind: image, Title: title, Config: c, Layers: layers}))
}

func (x *shelf) keepIndex(title string, subs ...api.Desc) api.Desc {
	x.t.Helper()
	return x.keep(index, encoding(x.t, api.Manifest{Kind: index, Title: title, Subs: subs}))
}

func encoding(t *testing.T, m api.Manifest) []byte {
	t.Helper()
	b, err := media.Encode(m)
	if err != api.OK {
		t.Fatalf("Encode(%v) = %v", m, err)
	}
	return b
}

func (x *shelf) drop(ids ...api.ID) {
	for _, id := range ids {
		x.s.Drop(id)
		delete(x.blobs, id)
	}
}

// copy is another shelf with the same blobs.
func (x *shelf) copy() *shelf {
	x.t.Helper()
	y := newShelf(x.t, x.width)
	for _, b := range x.blobs {
		y.put(b)
	}
	return y
}

// present returns the manifest that is stored under a digest.
func (x *shelf) present(id api.ID) (api.Manifest, bool) {
	b, is := x.blobs[id]
	if !is {
		return api.Manifest{}, false
	}
	m, f := media.Decode(b)
	return m, f == (api.Fault{})
}

// below is all that a manifest describes, in its order.
func below(m api.Manifest) []api.Desc {
	if m.Kind == image {
		return append([]api.Desc{m.Config}, m.Layers...)
	}
	return slices.Clone(m.Subs)
}

// visit is what a walk comes to, as the chapter defines it.
type visit struct {
	d     api.Desc
	depth int
	first bool
}

// walked reports whether what is visited is walked as a manifest.
func (v visit) walked() bool {
	return v.first || v.d.Media == image || v.d.Media == index
}

// errorOf is the error of what is visited: the first one of those that the chapter names in their order.
func (x *shelf) errorOf(v visit) api.Errno {
	b, stored := x.blobs[v.d.ID]
	m, is := x.present(v.d.ID)
	leaf := !v.first && (v.d.Media == config || v.d.Media == layer)
	for _, e := range []struct {
		applies bool
		err     api.Errno
	}{
		{!stored, api.ErrBlob},
		{!v.first && len(b) != v.d.Size, api.ErrSize},
		{v.walked() && v.depth > deepest, api.ErrDepth},
		{v.walked() && !is, api.ErrForm},
		{v.walked() && !v.first && m.Kind != v.d.Media, api.ErrMedia},
		{!v.walked() && !leaf, api.ErrMedia},
	} {
		if e.applies {
			return e.err
		}
	}
	return api.OK
}

// walk is what the chapter says of Walk, but for the number of digests: what is to be visited is a list, from the next one on.
func (x *shelf) walk(id api.ID) ([]api.ID, api.ID, api.Errno) {
	found := map[api.ID]int{}
	next := []visit{{api.Desc{ID: id}, 1, true}}
	for len(next) > 0 {
		v := next[0]
		if err := x.errorOf(v); err != api.OK {
			return nil, v.d.ID, err
		}
		found[v.d.ID]++
		var more []visit
		if v.walked() {
			m, _ := x.present(v.d.ID)
			for _, d := range below(m) {
				more = append(more, visit{d, v.depth + 1, false})
			}
		}
		next = append(more, next[1:]...)
	}
	return rising(slices.Collect(maps.Keys(found))...), api.ID{}, api.OK
}

// mark is what the chapter says of Mark, level by level.
func (x *shelf) mark(manifests []api.ID) []api.ID {
	found := slices.Clone(manifests)
	level := rising(manifests...)
	for range deepest {
		var next []api.ID
		for _, id := range level {
			m, _ := x.present(id)
			for _, d := range below(m) {
				found = append(found, d.ID)
				if d.Media == image || d.Media == index {
					next = append(next, d.ID)
				}
			}
		}
		level = rising(next...)
	}
	return rising(found...)
}

// rising is digests in their order, each once.
func rising(ids ...api.ID) []api.ID {
	ids = slices.Clone(ids)
	slices.SortFunc(ids, func(a, b api.ID) int { return bytes.Compare(a[:], b[:]) })
	return slices.Compact(ids)
}

func idsOf(list ...api.Desc) []api.ID {
	var ids []api.ID
	for _, d := range list {
		ids = append(ids, d.ID)
	}
	return ids
}

// check compares Walk, Whole and Mark of a digest with the definitions, and returns the error of Walk.
func (x *shelf) check(id api.ID) api.Errno {
	x.t.Helper()
	ids, wrong, err := x.walk(id)
	if len(ids) > mostRefs {
		ids, wrong, err = nil, id, api.ErrLong
	}
	got, gotWrong, gotErr := closure.Walk(x.s, id)
	if !slices.Equal(got, ids) || gotWrong != wrong || gotErr != err {
		x.t.Fatalf("Walk(%x) = %x, %x, %v, not %x, %x, %v", id[:3], got, gotWrong, gotErr, ids, wrong, err)
	}
	if is := closure.Whole(x.s, id); is != (err == api.OK) {
		x.t.Fatalf("Whole(%x) = %v beside %v", id[:3], is, err)
	}
	x.checkMark(id)
	return err
}

// checkMark compares Mark with its definition.
func (x *shelf) checkMark(ids ...api.ID) {
	x.t.Helper()
	if got, want := closure.Mark(x.s, ids), x.mark(ids); !slices.Equal(got, want) {
		x.t.Fatalf("Mark(%x) = %x, not %x", ids, got, want)
	}
}

// checkStore compares the store with what was stored: no call changes it.
func (x *shelf) checkStore() {
	x.t.Helper()
	if got, want := x.s.IDs(), rising(slices.Collect(maps.Keys(x.blobs))...); !slices.Equal(got, want) {
		x.t.Fatalf("%x are stored, not %x", got, want)
	}
	for id, b := range x.blobs {
		if got, is := x.s.Get(id); !bytes.Equal(got, b) || !is {
			x.t.Fatalf("%x: %v, %v, not %v", id[:3], got, is, b)
		}
	}
}

// complete walks a digest, and expects the closure of these things.
func (x *shelf) complete(id api.ID, things ...api.Desc) {
	x.t.Helper()
	want := rising(idsOf(things...)...)
	if got, wrong, err := closure.Walk(x.s, id); !slices.Equal(got, want) || wrong != (api.ID{}) || err != api.OK {
		x.t.Errorf("Walk(%x) = %x, %x, %v, not %x", id[:3], got, wrong, err, want)
	}
	if !closure.Whole(x.s, id) {
		x.t.Errorf("%x is not whole", id[:3])
	}
	x.check(id)
}

// fails walks a digest, and expects an error of another one.
func (x *shelf) fails(id api.ID, wrong api.ID, err api.Errno) {
	x.t.Helper()
	if got, gotWrong, gotErr := closure.Walk(x.s, id); len(got) != 0 || gotWrong != wrong || gotErr != err {
		x.t.Errorf("Walk(%x) = %x, %x, %v, not %x, %v", id[:3], got, gotWrong, gotErr, wrong, err)
	}
	if closure.Whole(x.s, id) {
		x.t.Errorf("%x is whole", id[:3])
	}
	x.check(id)
}

// marks expects these things to be what is reached from digests.
func (x *shelf) marks(from []api.ID, things ...api.Desc) {
	x.t.Helper()
	want := rising(idsOf(things...)...)
	if got := closure.Mark(x.s, from); !slices.Equal(got, want) {
		x.t.Errorf("Mark(%x) = %x, not %x", from, got, want)
	}
	x.checkMark(from...)
}
