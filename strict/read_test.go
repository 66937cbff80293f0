package strict_test

import (
	"slices"
	"testing"

	"entrepot/api"
	"entrepot/media"
	"entrepot/strict"
)

// bytesOf are the bytes of a manifest that has some.
func bytesOf(t *testing.T, m api.Manifest) []byte {
	t.Helper()
	b, err := media.Encode(m)
	if err != api.OK {
		t.Fatalf("%v: %v", m, err)
	}
	return b
}

// expectRead reads bytes that are to be refused with an error, in the model too.
func expectRead(t *testing.T, b []byte, width int, want api.Errno) {
	t.Helper()
	if m, err := strict.Read(b, width); !same(m, api.Manifest{}) || m.Layers != nil || m.Subs != nil || err != want {
		t.Fatalf("Read(%.300v, %d) = %v, %v, not %v", b, width, m, err, want)
	}
	readAs(t, b, width)
}

// P12.1, P12.4: valid manifests are read as they were, at each width.
func TestReadValid(t *testing.T) {
	for _, m := range valid() {
		b := bytesOf(t, m)
		for width := 1; width <= 32; width++ {
			if got, err := strict.Read(b, width); !same(got, m) || err != api.OK {
				t.Fatalf("Read(%v, %d) = %v, %v", b, width, got, err)
			}
		}
		for _, width := range append(extremes(), 0, 33, 34, 256) {
			expectRead(t, b, width, api.ErrRange)
		}
	}
}

// P12.1: faults of the bytes, which count ahead of those of a manifest, the width included.
func TestReadFaultsOfBytes(t *testing.T) {
	image16 := bytesOf(t, anImage(16))
	cases := []struct {
		b    []byte
		want api.Errno
	}{
		{nil, api.ErrShort},
		{[]byte{}, api.ErrShort},
		{[]byte{77}, api.ErrShort},
		{[]byte{77, 4, 0}, api.ErrShort},
		{[]byte{200}, api.ErrForm},
		{[]byte{77, 4, 192, 0}, api.ErrForm},
		{[]byte{76, 4, 0, 0}, api.ErrMedia},
		{[]byte{77, 5, 0, 0}, api.ErrMedia},
		{[]byte{77, 4, 0, 0, 0}, api.ErrLong},
		{[]byte{77, 4, 0, 9}, api.ErrLong},
		{[]byte{77, 4, 1, '\n', 0, 0}, api.ErrLong},
		{make([]byte, 4097), api.ErrLong},
		{append([]byte{77, 4, 0, 0}, make([]byte, 4093)...), api.ErrLong},
		{image16[:len(image16)-1], api.ErrShort},
		{append(slices.Clone(image16), 0), api.ErrLong},
	}
	for _, c := range cases {
		for _, width := range []int{-1, 0, 1, 31, 32, 33} {
			expectRead(t, c.b, width, c.want)
		}
	}
}

// P12.1: faults of manifests whose bytes are right.
func TestReadFaultsOfManifests(t *testing.T) {
	expectRead(t, []byte{77, 4, 0, 0}, 32, api.ErrManifest)
	expectRead(t, []byte{77, 4, 0, 0}, 0, api.ErrRange)
	expectRead(t, []byte{77, 4, 1, '\n', 0}, 32, api.ErrName)
	for _, m := range []api.Manifest{anImage(0), anImage(3), anIndex(2, 2)} {
		for _, s := range spoilers(m) {
			x := &spoiled{copied(m), 31}
			s.spoil(x)
			if b, err := media.Encode(x.m); err == api.OK {
				expectRead(t, b, x.width, s.err)
			}
		}
	}
}

// P12.1: each beginning of bytes.
func TestReadBeginnings(t *testing.T) {
	for _, m := range valid() {
		b := bytesOf(t, m)
		for n := range b {
			expectRead(t, b[:n], 32, api.ErrShort)
		}
	}
}

// P12.1, P12.4: bytes with each byte changed to all others: read as other manifests, or refused.
func TestReadChanged(t *testing.T) {
	reads := 0
	for _, m := range []api.Manifest{anImage(0), anImage(2), anIndex(1, 1), anIndex(3, 0)} {
		b := bytesOf(t, m)
		for i := range b {
			for x := range 256 {
				other := slices.Clone(b)
				other[i] = byte(x)
				if readAs(t, other, 1+x%32) && x != int(b[i]) {
					reads++
				}
			}
		}
	}
	if reads < 1000 {
		t.Errorf("%d were read", reads)
	}
}

// P12.1: what is read has nothing to do with the bytes any more, or with what was read before.
func TestReadMemory(t *testing.T) {
	for _, m := range valid() {
		b := bytesOf(t, m)
		first, _ := strict.Read(b, 32)
		second, _ := strict.Read(b, 32)
		clear(b)
		clear(first.Layers[:cap(first.Layers)])
		clear(first.Subs[:cap(first.Subs)])
		if !same(second, m) {
			t.Errorf("%v became %v", m, second)
		}
	}
}
