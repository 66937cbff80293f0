package blob_test

import (
	"bytes"
	"math"
	"slices"
	"testing"

	"entrepot/api"
	"entrepot/blob"
)

// invalid are stores that New did not make.
func invalid(t *testing.T) []*blob.Store {
	t.Helper()
	s := newStore(t, 32, 100)
	if is, err := s.Put(digest([]byte("abc"), 32), []byte("abc")); !is || err != api.OK {
		t.Fatal(is, err)
	}
	copied := *s
	return []*blob.Store{nil, {}, new(blob.Store), &copied}
}

// P8.1: which widths and rooms there are.
func TestNew(t *testing.T) {
	const most = 1 << 26
	for _, x := range [][2]int{
		{0, 5}, {33, 5}, {1, -1}, {-1, 5}, {32, -1}, {0, -1}, {33, most + 1}, {64, 5}, {256 + 32, 5}, {1<<32 + 1, 5},
		{math.MinInt, 5}, {math.MaxInt, 5}, {32, most + 1}, {1, most + 1}, {32, math.MinInt}, {32, math.MaxInt}, {32, 1 << 32}, {0, 0}, {33, 0},
	} {
		if s, err := blob.New(x[0], x[1]); s != nil || err != api.ErrRange {
			t.Errorf("New(%d, %d) = %v, %v", x[0], x[1], s, err)
		}
	}
	for width := 1; width <= 32; width++ {
		for _, room := range []int{0, 1, 5, 4096, 4097, most - 1, most} {
			newBoth(t, width, room).check()
		}
	}
}

// P8.1, P8.2, P8.3: a store that is nil, or that New did not make, a copied one too: ErrNil is ahead of all other errors.
func TestInvalid(t *testing.T) {
	abc := []byte("abc")
	id := digest(abc, 32)
	for i, s := range invalid(t) {
		for _, x := range []kept{{id, abc}, {id, []byte("abd")}, {digest(nil, 32), nil}, {id, make([]byte, 5000)}, {api.ID{}, abc}, {digest(make([]byte, 200), 32), make([]byte, 200)}} {
			if is, err := s.Put(x.id, x.b); is || err != api.ErrNil {
				t.Errorf("%d: Put: %v, %v", i, is, err)
			}
		}
		if s.Width() != 0 || s.Room() != 0 || s.Used() != 0 || len(s.IDs()) != 0 {
			t.Errorf("%d: %d %d %d %d", i, s.Width(), s.Room(), s.Used(), len(s.IDs()))
		}
		for _, id := range []api.ID{id, {}} {
			if b, is := s.Get(id); b != nil || is {
				t.Errorf("%d: Get: %v, %v", i, b, is)
			}
			if n, is := s.Size(id); n != 0 || is {
				t.Errorf("%d: Size: %v, %v", i, n, is)
			}
			if s.Drop(id) {
				t.Errorf("%d: dropped", i)
			}
		}
	}
}

// P8.1: a copy of a store, which is invalid, does nothing to the store.
func TestCopied(t *testing.T) {
	x := newBoth(t, 32, 100)
	id := x.add([]byte("abc"))
	copied := *x.s
	if copied.Drop(id) {
		t.Error("dropped")
	}
	if is, err := copied.Put(digest(nil, 32), nil); is || err != api.ErrNil {
		t.Error(is, err)
	}
	x.check()
}

// P8.2, P8.3: the chapter's examples.
func TestExamples(t *testing.T) {
	x := newBoth(t, 32, 5)
	abc := []byte("abc")
	id := x.add(abc)
	if is, err := x.put(id, abc); is || err != api.OK {
		t.Error(is, err)
	}
	x.check()
	if b, is := x.s.Get(id); string(b) != "abc" || !is || x.s.Used() != 3 {
		t.Errorf("%q, %v, %d", b, is, x.s.Used())
	}
	defg := []byte("defg")
	x.refuse(digest(defg, 32), defg, api.ErrFull)
	x.refuse(id, []byte("abd"), api.ErrDigest)
	if !x.drop(id) || x.drop(id) || len(x.s.IDs()) != 0 {
		t.Error("dropped")
	}
	if n, is := x.s.Size(id); n != 0 || is {
		t.Error(n, is)
	}
	x.check()
}

// P8.2: a blob of each length, of each width; one of more than 4,096 bytes is none.
func TestLengths(t *testing.T) {
	for _, width := range []int{4, 31, 32} {
		x := newBoth(t, width, 1<<26)
		for _, n := range []int{0, 1, 2, 55, 56, 63, 64, 65, 4095, 4096} {
			x.add(mixed(n, 1))
			x.check()
		}
		for _, n := range []int{4097, 4098, 5000, 8192, 1 << 16, 1<<16 + 4} {
			b := mixed(n, 1)
			x.refuse(digest(b, width), b, api.ErrLong)
			x.refuse(digest(b[:4096], width), b, api.ErrLong)
			x.refuse(api.ID{}, b, api.ErrLong)
		}
	}
}

// P8.2: ErrLong is ahead of ErrFull.
func TestLongAheadOfFull(t *testing.T) {
	x := newBoth(t, 32, 4000)
	b := mixed(4097, 1)
	x.refuse(digest(b, 32), b, api.ErrLong)
	x.refuse(digest(b[:4096], 32), b[:4096], api.ErrFull)
}

// P8.2: a blob is put under its digest of the store's width alone: no bit of it is another, and nothing is behind the width.
func TestDigest(t *testing.T) {
	b := []byte("a blob")
	for width := 1; width <= 32; width++ {
		x := newBoth(t, width, 100)
		id := digest(b, width)
		for round := range 2 {
			for bit := range 256 {
				wrong := id
				wrong[bit/8] ^= 1 << (bit % 8)
				x.refuse(wrong, b, api.ErrDigest)
				x.look(wrong)
				if x.drop(wrong) {
					t.Fatal("dropped")
				}
			}
			for other := 1; other <= 32; other++ {
				if wrong := digest(b, other); wrong != id {
					x.refuse(wrong, b, api.ErrDigest)
				}
			}
			x.refuse(api.ID{}, b, api.ErrDigest)
			if round == 0 {
				x.add(b)
			}
		}
		x.check()
	}
}

// P8.2: ErrDigest is ahead of ErrFull, and of what is stored under the digest.
func TestDigestAheadOfFull(t *testing.T) {
	x := newBoth(t, 32, 5)
	x.refuse(digest([]byte("abc"), 32), []byte("abcdef"), api.ErrDigest)
	id := x.add([]byte("abc"))
	x.refuse(id, []byte("abcdef"), api.ErrDigest)
	x.refuse(id, []byte("ab"), api.ErrDigest)
	x.refuse(id, nil, api.ErrDigest)
	x.refuse(api.ID{}, []byte("abc"), api.ErrDigest)
}

// sameDigests are two blobs, both of n bytes or of n and m bytes, with the same digest of a width.
func sameDigests(t *testing.T, n, m, width int) (a, b []byte) {
	t.Helper()
	seen := map[api.ID][]byte{}
	for k := range uint32(1 << 12) {
		a := mixed(n, k)
		seen[digest(a, width)] = a
	}
	for k := range uint32(1 << 16) {
		b := mixed(m, k+1<<20)
		if a := seen[digest(b, width)]; a != nil && !bytes.Equal(a, b) {
			return a, b
		}
	}
	t.Fatal("no two blobs with the same digest")
	return nil, nil
}

// P8.2: two blobs with the same digest, of the same length or not: the first one stays, until it is dropped.
func TestConflict(t *testing.T) {
	for _, width := range []int{1, 2} {
		for _, lengths := range [][2]int{{20, 20}, {20, 10}, {10, 20}, {8, 4096}} {
			a, b := sameDigests(t, lengths[0], lengths[1], width)
			x := newBoth(t, width, 1<<20)
			id := x.add(a)
			x.refuse(id, b, api.ErrConflict)
			if is, err := x.put(id, a); is || err != api.OK {
				t.Error(is, err)
			}
			x.check()
			if !x.drop(id) || x.add(b) != id {
				t.Error("another one after a Drop")
			}
			x.refuse(id, a, api.ErrConflict)
		}
	}
}

// P8.2: an empty blob is one as well: another one with its digest conflicts with it.
func TestConflictOfEmpty(t *testing.T) {
	x := newBoth(t, 1, 1000)
	id := x.add(nil)
	for k := range uint32(1 << 12) {
		if b := mixed(10, k); digest(b, 1) == id {
			x.refuse(id, b, api.ErrConflict)
			if !x.drop(id) || x.add(b) != id {
				t.Error("another one after a Drop")
			}
			x.refuse(id, []byte{}, api.ErrConflict)
			return
		}
	}
	t.Fatal("no blob with the digest of none")
}

// P8.2: ErrConflict is ahead of ErrFull, and a blob that is stored does not need further room.
func TestConflictAheadOfFull(t *testing.T) {
	a, b := sameDigests(t, 20, 10, 1)
	c, d := sameDigests(t, 10, 20, 1)
	for _, x := range []struct{ in, out []byte }{{a, b}, {c, d}} {
		full := newBoth(t, 1, len(x.in))
		id := full.add(x.in)
		full.refuse(id, x.out, api.ErrConflict)
		for range 3 {
			if is, err := full.put(id, x.in); is || err != api.OK {
				t.Error(is, err)
			}
			full.check()
		}
	}
}

// P8.2: the room holds so many bytes, and not one more; what is dropped makes room.
func TestFull(t *testing.T) {
	for room := range 12 {
		x := newBoth(t, 32, room)
		for n := range 14 {
			b := mixed(n, uint32(room))
			if n <= room {
				id := x.add(b)
				x.check()
				rest := mixed(room-n+1, 77)
				x.refuse(digest(rest, 32), rest, api.ErrFull)
				if n < room {
					rest = x.fill(room - n)
				}
				x.refuse(digest([]byte("x"), 32), []byte("x"), api.ErrFull)
				x.dropAll(id, digest(rest, 32))
			} else {
				x.refuse(digest(b, 32), b, api.ErrFull)
			}
		}
	}
}

// fill puts a blob of n bytes, and one of none, which needs no room.
func (x *both) fill(n int) []byte {
	x.t.Helper()
	b := mixed(n, 99)
	x.add(b)
	if _, is := x.m.get(digest(nil, 32)); !is {
		x.drop(x.add(nil))
	}
	x.check()
	return b
}

func (x *both) dropAll(ids ...api.ID) {
	x.t.Helper()
	for _, id := range ids {
		x.drop(id)
		x.check()
	}
}

// P8.2, P8.3: an empty blob is stored as others are, also where there is no room at all.
func TestEmptyBlob(t *testing.T) {
	for _, b := range [][]byte{nil, {}} {
		x := newBoth(t, 32, 0)
		x.refuse(digest([]byte("a"), 32), []byte("a"), api.ErrFull)
		id := x.add(b)
		if got, is := x.s.Get(id); len(got) != 0 || !is {
			t.Error(got, is)
		}
		if n, is := x.s.Size(id); n != 0 || !is || x.s.Used() != 0 {
			t.Error(n, is)
		}
		x.check()
		for _, again := range [][]byte{nil, {}} {
			if is, err := x.put(id, again); is || err != api.OK {
				t.Error(is, err)
			}
		}
		if !x.drop(id) || x.drop(id) {
			t.Error("dropped")
		}
		x.check()
	}
}

// P8.2, P8.4: the greatest room, full of the greatest blobs.
func TestGreatestRoom(t *testing.T) {
	if testing.Short() {
		t.Skip("takes seconds")
	}
	const most, n = 1 << 26, 1 << 14
	s := newStore(t, 32, most)
	ids := make([]api.ID, 0, n)
	for i := range n {
		b := mixed(4096, uint32(i)*0x9e3779b9)
		ids = append(ids, digest(b, 32))
		if is, err := s.Put(ids[i], b); !is || err != api.OK || s.Used() != 4096*(i+1) {
			t.Fatalf("%d: %v, %v, %d", i, is, err, s.Used())
		}
	}
	one := []byte("x")
	if is, err := s.Put(digest(one, 32), one); is || err != api.ErrFull {
		t.Error(is, err)
	}
	if !s.Drop(ids[5]) || s.Used() != most-4096 {
		t.Error(s.Used())
	}
	if is, err := s.Put(digest(one, 32), one); !is || err != api.OK || s.Used() != most-4095 {
		t.Error(is, err, s.Used())
	}
	ids[5] = digest(one, 32)
	slices.SortFunc(ids, func(a, b api.ID) int { return bytes.Compare(a[:], b[:]) })
	if !slices.Equal(s.IDs(), ids) {
		t.Error("IDs")
	}
}

// P8.3: digests are ascending, whatever the order in which the blobs came, and wherever two digests differ first.
func TestIDs(t *testing.T) {
	for _, width := range []int{1, 2, 3, 32} {
		for _, n := range []int{0, 1, 2, 3, 4, 5, 7, 8, 15, 16, 17, 100} {
			x := newBoth(t, width, 1<<20)
			var ids []api.ID
			for k := range uint32(n) {
				b := mixed(8, k)
				if is, _ := x.put(digest(b, width), b); is {
					ids = append(ids, digest(b, width))
				}
			}
			x.check()
			for i, id := range ids {
				if i%3 > 0 {
					x.drop(id)
				}
			}
			x.check()
		}
	}
}

// P8.3: all digests of one byte, those above 127 behind the others.
func TestIDsOfOneByte(t *testing.T) {
	x := newBoth(t, 1, 1<<20)
	for k := uint32(0); len(x.m.blobs) < 256 && k < 1<<16; k++ {
		b := mixed(8, k)
		x.put(digest(b, 1), b)
	}
	ids := x.s.IDs()
	if len(ids) != 256 {
		t.Fatal(len(ids))
	}
	for i, id := range ids {
		if id != (api.ID{byte(i)}) {
			t.Errorf("%d: %x", i, id)
		}
	}
	x.check()
}

// P8.2, P8.3: what was put and what is told is nobody else's memory.
func TestMemory(t *testing.T) {
	x := newBoth(t, 32, 1000)
	b := append(make([]byte, 0, 64), "abc"...)
	spare := b[:64]
	copy(spare[3:], "def")
	id := x.add(b)
	if string(spare[:6]) != "abcdef" {
		t.Error("an argument is changed")
	}
	clear(spare)
	x.check()
	for range 2 {
		got, _ := x.s.Get(id)
		clear(got[:cap(got)])
		x.check()
	}
	x.add([]byte("x"))
	ids := x.s.IDs()
	clear(ids[:cap(ids)])
	x.check()
}

// P8.2: bytes that come again, and are changed afterwards, do not become those that are stored.
func TestMemoryOfSecondPut(t *testing.T) {
	x := newBoth(t, 32, 1000)
	id := x.add([]byte("abc"))
	again := []byte("abc")
	if is, err := x.put(id, again); is || err != api.OK {
		t.Error(is, err)
	}
	clear(again)
	x.check()
}

// P8.1, P8.2: stores do not know of each other.
func TestTwoStores(t *testing.T) {
	x, y := newBoth(t, 32, 10), newBoth(t, 4, 10)
	x.add([]byte("abc"))
	y.add([]byte("abc"))
	y.add([]byte("defg"))
	x.check()
	y.check()
	if !x.drop(digest([]byte("abc"), 32)) || x.drop(digest([]byte("abc"), 4)) {
		t.Error("dropped")
	}
	x.check()
	y.check()
}
