package blob_test

import (
	"bytes"
	"crypto/sha256"
	"slices"
	"testing"

	"entrepot/api"
	"entrepot/blob"
)

// model is a store, as the chapter defines it: what was put and not dropped, with the digests of the tests' own library.
type model struct {
	width, room int
	blobs       []kept
}

type kept struct {
	id api.ID
	b  []byte
}

// digest is the digest of bytes, truncated to a width.
func digest(b []byte, width int) api.ID {
	id := api.ID(sha256.Sum256(b))
	clear(id[width:])
	return id
}

func (m *model) find(id api.ID) int {
	return slices.IndexFunc(m.blobs, func(k kept) bool { return k.id == id })
}

func (m *model) put(id api.ID, b []byte) (bool, api.Errno) {
	if len(b) > 4096 {
		return false, api.ErrLong
	}
	if id != digest(b, m.width) {
		return false, api.ErrDigest
	}
	if i := m.find(id); i >= 0 && !bytes.Equal(m.blobs[i].b, b) {
		return false, api.ErrConflict
	} else if i >= 0 {
		return false, api.OK
	}
	if m.used()+len(b) > m.room {
		return false, api.ErrFull
	}
	m.blobs = append(m.blobs, kept{id, slices.Clone(b)})
	return true, api.OK
}

func (m *model) get(id api.ID) ([]byte, bool) {
	if i := m.find(id); i >= 0 {
		return m.blobs[i].b, true
	}
	return nil, false
}

func (m *model) drop(id api.ID) bool {
	i := m.find(id)
	if i >= 0 {
		m.blobs = slices.Delete(m.blobs, i, i+1)
	}
	return i >= 0
}

func (m *model) ids() []api.ID {
	var ids []api.ID
	for _, k := range m.blobs {
		ids = append(ids, k.id)
	}
	slices.SortFunc(ids, func(a, b api.ID) int { return bytes.Compare(a[:], b[:]) })
	return ids
}

func (m *model) used() int {
	n := 0
	for _, k := range m.blobs {
		n += len(k.b)
	}
	return n
}

// both is a store and its model, to which the same is done.
type both struct {
	t *testing.T
	s *blob.Store
	m *model
}

func newStore(t *testing.T, width, room int) *blob.Store {
	t.Helper()
	s, err := blob.New(width, room)
	if s == nil || err != api.OK {
		t.Fatalf("New(%d, %d) = %v, %v", width, room, s, err)
	}
	return s
}

func newBoth(t *testing.T, width, room int) *both {
	t.Helper()
	return &both{t, newStore(t, width, room), &model{width: width, room: room}}
}

// put puts b under id, in both, and returns what that answers.
func (x *both) put(id api.ID, b []byte) (bool, api.Errno) {
	x.t.Helper()
	is, err := x.s.Put(id, b)
	wantIs, want := x.m.put(id, b)
	if is != wantIs || err != want {
		x.t.Fatalf("Put(%x, %d bytes) = %v, %v, not %v, %v", id[:3], len(b), is, err, wantIs, want)
	}
	return is, err
}

// add puts b under its digest, in both, which is to be done.
func (x *both) add(b []byte) api.ID {
	x.t.Helper()
	id := digest(b, x.m.width)
	if is, err := x.put(id, b); !is || err != api.OK {
		x.t.Fatalf("%d bytes are not put: %v, %v", len(b), is, err)
	}
	return id
}

// refuse puts b under id, in both, which is to be refused with an error, and to change nothing.
func (x *both) refuse(id api.ID, b []byte, want api.Errno) {
	x.t.Helper()
	if is, err := x.put(id, b); is || err != want {
		x.t.Fatalf("%d bytes: %v, %v, not %v", len(b), is, err, want)
	}
	x.check()
}

// drop drops id in both, and returns what that answers.
func (x *both) drop(id api.ID) bool {
	x.t.Helper()
	is, want := x.s.Drop(id), x.m.drop(id)
	if is != want {
		x.t.Fatalf("Drop(%x) = %v, not %v", id[:3], is, want)
	}
	return is
}

// look compares what is stored under id.
func (x *both) look(id api.ID) {
	x.t.Helper()
	want, wantIs := x.m.get(id)
	if b, is := x.s.Get(id); !bytes.Equal(b, want) || is != wantIs {
		x.t.Fatalf("Get(%x) = %d bytes, %v, not %d, %v", id[:3], len(b), is, len(want), wantIs)
	}
	if n, is := x.s.Size(id); n != len(want) || is != wantIs {
		x.t.Fatalf("Size(%x) = %d, %v, not %d, %v", id[:3], n, is, len(want), wantIs)
	}
}

// check compares all that the store answers with what its model does.
func (x *both) check() {
	x.t.Helper()
	if x.s.Width() != x.m.width || x.s.Room() != x.m.room || x.s.Used() != x.m.used() {
		x.t.Fatalf("%d %d %d, not %d %d %d", x.s.Width(), x.s.Room(), x.s.Used(), x.m.width, x.m.room, x.m.used())
	}
	if ids := x.s.IDs(); !slices.Equal(ids, x.m.ids()) {
		x.t.Fatalf("IDs = %x, not %x", ids, x.m.ids())
	}
	for _, k := range x.m.blobs {
		x.look(k.id)
	}
}

// mixed are n bytes that depend on a number.
func mixed(n int, k uint32) []byte {
	b := make([]byte, n)
	for i := range b {
		k = k*1664525 + 1013904223
		b[i] = byte(k >> 24)
	}
	return b
}
