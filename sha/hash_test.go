package sha_test

import (
	"bytes"
	"crypto/sha256"
	"testing"

	"entrepot/api"
	"entrepot/sha"
)

// checkHash asks a hash what was written.
func checkHash(t *testing.T, h *sha.Hash, written []byte) {
	t.Helper()
	want := api.ID(sha256.Sum256(written))
	if got, err := h.Sum(); got != want || err != api.OK {
		t.Fatalf("Sum after %d bytes = %x, %v, not %x", len(written), got, err, want)
	}
	if got := h.Len(); got != len(written) {
		t.Fatalf("Len after %d bytes = %d", len(written), got)
	}
}

func write(t *testing.T, h *sha.Hash, b []byte) {
	t.Helper()
	if err := h.Write(b); err != api.OK {
		t.Fatalf("Write of %d bytes: %v", len(b), err)
	}
}

// P2.3: a new hash has no bytes, and stays so when none are written.
func TestNew(t *testing.T) {
	h := sha.New()
	checkHash(t, h, nil)
	write(t, h, nil)
	write(t, h, []byte{})
	checkHash(t, h, nil)
	if sha.New() == h {
		t.Error("New returns the same hash twice")
	}
}

// P2.3: what is written is behind what was written before, and asking in between changes nothing.
func TestHash(t *testing.T) {
	b := sample(500, 1)
	h := sha.New()
	for i := range b {
		checkHash(t, h, b[:i])
		checkHash(t, h, b[:i])
		write(t, h, b[i:i+1])
		write(t, h, nil)
	}
	checkHash(t, h, b)
}

// P2.3: Write keeps nothing of its argument, and changes nothing of it.
func TestWrittenBytes(t *testing.T) {
	for n := range 200 {
		b := sample(n+10, 2)
		before := bytes.Clone(b)
		h := sha.New()
		write(t, h, b[:n])
		if !bytes.Equal(b, before) {
			t.Fatalf("Write of %d bytes changed them", n)
		}
		clear(b)
		checkHash(t, h, before[:n])
		sha.Sum(before[:n])
		if !bytes.Equal(before, sample(n+10, 2)) {
			t.Fatalf("Sum of %d bytes changed them", n)
		}
	}
}

// P2.3: hashes do not know of each other.
func TestTwoHashes(t *testing.T) {
	a, b := sha.New(), sha.New()
	one, other := sample(300, 3), sample(300, 4)
	for i := 0; i < 300; i += 30 {
		write(t, a, one[i:i+30])
		write(t, b, other[i:i+30])
		checkHash(t, a, one[:i+30])
		checkHash(t, b, other[:i+30])
	}
}

// P2.3: a hash that New did not return.
func TestInvalidHash(t *testing.T) {
	used := sha.New()
	write(t, used, []byte("abc"))
	copied := *used
	cases := []struct {
		what string
		h    *sha.Hash
	}{
		{"nil", nil},
		{"none", &sha.Hash{}},
		{"new", new(sha.Hash)},
		{"copied", &copied},
	}
	for _, c := range cases {
		for _, b := range [][]byte{nil, []byte("abc"), make([]byte, 200)} {
			if err := c.h.Write(b); err != api.ErrNil {
				t.Errorf("%s: Write: %v", c.what, err)
			}
			if got := c.h.Len(); got != 0 {
				t.Errorf("%s: Len = %d", c.what, got)
			}
			if got, err := c.h.Sum(); got != (api.ID{}) || err != api.ErrNil {
				t.Errorf("%s: Sum = %x, %v", c.what, got, err)
			}
		}
	}
	checkHash(t, used, []byte("abc"))
}

// P2.4: in whatever two or three pieces bytes are written, the digest is that of all of them.
func TestPieces(t *testing.T) {
	b := sample(150, 5)
	want := sha.Sum(b)
	for i := range len(b) + 1 {
		for j := i; j <= len(b); j++ {
			h := sha.New()
			for _, piece := range [][]byte{b[:i], b[i:j], b[j:]} {
				write(t, h, piece)
			}
			if got, err := h.Sum(); got != want || err != api.OK || h.Len() != len(b) {
				t.Fatalf("pieces at %d and %d: %x, %v, not %x", i, j, got, err, want)
			}
		}
	}
}

// P2.4: the same with many pieces of one size, and of growing ones.
func TestManyPieces(t *testing.T) {
	b := sample(3000, 6)
	for size := 1; size <= 200; size++ {
		same, growing := sha.New(), sha.New()
		for at := 0; at < len(b); at += size {
			write(t, same, b[at:min(at+size, len(b))])
		}
		checkHash(t, same, b)
		for at, n := 0, size; at < len(b); n++ {
			end := min(at+n, len(b))
			write(t, growing, b[at:end])
			at = end
		}
		checkHash(t, growing, b)
	}
}

// P2.1, P2.4: the number of bits is written in more than four bytes.
func TestMoreThanFourBytesOfBits(t *testing.T) {
	if testing.Short() {
		t.Skip("takes seconds")
	}
	piece := sample(1<<20+1, 7)
	h, want := sha.New(), sha256.New()
	for range 513 {
		write(t, h, piece)
		want.Write(piece)
	}
	if got, err := h.Sum(); got != api.ID(want.Sum(nil)) || err != api.OK || h.Len() != 513*len(piece) {
		t.Errorf("%d bytes: %x, %v", h.Len(), got, err)
	}
}
