package blob_test

import (
	"bytes"
	"testing"

	"entrepot/api"
)

// P8.4: long trials beside a model: each blob is what was put and has its digest, Used is the sum of the sizes and never above the room, and what is put stays until it is dropped.
func TestTrials(t *testing.T) {
	for seed := range uint32(60) {
		width := []int{1, 2, 3, 32}[seed%4]
		room := []int{0, 10, 60, 200, 5000}[seed%5]
		x := newBoth(t, width, room)
		k := seed * 0x9e3779b9
		for range 300 {
			k = k*1664525 + 1013904223
			x.step(k >> 8)
			x.check()
			x.checkTheorem()
		}
	}
}

// step does something to both that depends on a number.
func (x *both) step(k uint32) {
	x.t.Helper()
	b := mixed(int(k>>3)%24, k>>8%40)
	if k%64 == 0 {
		b = mixed(4090+int(k>>3)%12, k>>8%4)
	}
	id := digest(b, x.m.width)
	switch k % 8 {
	case 0, 1, 2, 3, 4:
		x.put(id, b)
	case 5:
		x.drop(id)
	case 6:
		if ids := x.m.ids(); len(ids) > 0 {
			x.drop(ids[int(k>>8)%len(ids)])
		}
	case 7:
		id[int(k>>8)%32] ^= 1
		x.put(id, b)
	}
	x.look(id)
}

// checkTheorem checks the store alone.
func (x *both) checkTheorem() {
	x.t.Helper()
	sum := 0
	var last api.ID
	for i, id := range x.s.IDs() {
		b, is := x.s.Get(id)
		n, isToo := x.s.Size(id)
		if !is || !isToo || n != len(b) || digest(b, x.s.Width()) != id {
			x.t.Fatalf("%x: %d, %d bytes", id, n, len(b))
		}
		if i > 0 && bytes.Compare(last[:], id[:]) >= 0 {
			x.t.Fatalf("%x is not before %x", last, id)
		}
		last = id
		sum += n
	}
	if sum != x.s.Used() || sum > x.s.Room() {
		x.t.Fatalf("%d bytes, %d used, room for %d", sum, x.s.Used(), x.s.Room())
	}
}
