package upload_test

import (
	"slices"
	"testing"

	"entrepot/api"
)

// pieces divides b behind each byte of which the bit is set.
func pieces(b []byte, bits int) [][]byte {
	var l [][]byte
	begin := 0
	for i := range b {
		if bits>>i&1 > 0 || i == len(b)-1 {
			l = append(l, b[begin:i+1])
			begin = i + 1
		}
	}
	return l
}

// P9.5: bytes divided into pieces in all ways are all there in the end, in order; each piece again at its old offset, and at each other wrong one, is refused, and changes nothing.
func TestPieces(t *testing.T) {
	b := []byte("abcabcdeab")
	for bits := range 1 << (len(b) - 1) {
		x := newAll(t, 32)
		n := x.begin("a", nil)
		at := 0
		for _, piece := range pieces(b, bits) {
			x.write(n, at, piece)
			at += len(piece)
			for offset := -1; offset <= len(b)+1; offset++ {
				if offset != at {
					x.refuseWrite(n, offset, piece, api.ErrOffset)
				}
			}
		}
		if s, err := x.finish(n, digest(b, 32)); string(s.B) != string(b) || err != api.OK {
			t.Fatalf("%b: %q, %v", bits, s.B, err)
		}
		x.check()
	}
}

// P9.5: pieces of equal lengths make up the greatest upload, all of it in order; the last one that is too long does not.
func TestGreatestUpload(t *testing.T) {
	b := mixed(longest, 1)
	for _, length := range []int{1, 2, 3, 7, 64, 100, 1000, longest - 1, longest} {
		x := newAll(t, 32)
		n := x.begin("a", nil)
		for piece := range slices.Chunk(b, length) {
			at, _ := x.offset(n)
			if length > 2 || at%64 == 0 {
				x.refuseWrite(n, at+1, piece, api.ErrOffset)
				x.refuseWrite(n, at, slices.Concat(b[at:], []byte{0}), api.ErrLong)
			}
			x.write(n, at, piece)
		}
		x.refuseWrite(n, longest, []byte{0}, api.ErrLong)
		x.reload()
		if s, err := x.finish(n, digest(b, 32)); !slices.Equal(s.B, b) || err != api.OK {
			t.Errorf("%d: %d bytes, %v", length, len(s.B), err)
		}
	}
}

// P9.5: a table that is loaded from Next and List goes on as the old one, from wherever it is loaded.
func TestReload(t *testing.T) {
	for steps := range 40 {
		x := newAll(t, 3)
		k := uint32(7)
		for i := range 80 {
			if i == steps || i == 2*steps {
				x.reload()
			}
			k = k*1664525 + 1013904223
			x.step(k >> 8)
			x.check()
		}
	}
}

// P9.5: long trials beside a model, with tables that are loaded on the way.
func TestTrials(t *testing.T) {
	for seed := range uint32(60) {
		width := []int{1, 2, 3, 32}[seed%4]
		next := []int{1, 2, 100, lastNumber - 40, lastNumber + 1}[seed%5]
		x := loadAll(t, width, next, nil)
		k := seed * 0x9e3779b9
		for i := range 400 {
			k = k*1664525 + 1013904223
			x.step(k >> 8)
			x.check()
			if i%150 == 100 {
				x.reload()
			}
		}
	}
}

// step does something that depends on a number.
func (x *all) step(k uint32) {
	x.t.Helper()
	n := x.someNumber(int(k >> 4))
	at, _ := x.m.offset(n)
	switch k % 16 {
	case 0, 1, 2:
		x.start(names[int(k>>8)%len(names)])
	case 3:
		x.start(wrong[int(k>>8)%len(wrong)])
	case 4, 5, 6, 7, 8:
		x.write(n, at, mixed(int(k>>8)%20, k))
	case 9:
		x.write(n, at, mixed(max(0, longest-at-1+int(k>>8)%3), k))
	case 10:
		x.write(n, at-2+int(k>>8)%5, mixed(int(k>>12)%5, k))
	case 11:
		x.write(n, 0, mixed(int(k>>12)%5, k))
	case 12:
		x.cancel(n)
	case 13:
		x.finish(n, digest(mixed(int(k>>8)%20, k), x.m.width))
	default:
		if i := x.m.find(n); i >= 0 {
			x.finish(n, digest(x.m.sessions[i].B, x.m.width))
		}
	}
}

// someNumber is the number of a session, if there is one, or seldom another number.
func (x *all) someNumber(k int) int {
	if len(x.m.sessions) == 0 || k%8 == 0 {
		return x.m.next - 4 + k/8%6
	}
	return x.m.sessions[k/8%len(x.m.sessions)].N
}
