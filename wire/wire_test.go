package wire_test

import (
	"slices"
	"testing"

	"entrepot/api"
	"entrepot/wire"
)

// enough is a most that no thing of these tests is above.
const enough = 1 << 20

// choice makes choices of which none repeats soon, the same ones each time.
type choice uint64

// below returns a number from 0 on and below n.
func (c *choice) below(n int) int {
	*c = *c*6364136223846793005 + 1442695040888963407
	return int(uint64(*c)>>33) % n
}

// P4.4: each thing is read as it was, and nothing is left.
func TestReadAsItWas(t *testing.T) {
	for _, thing := range things() {
		w := newWriter(t, enough)
		write(w, thing)
		b, _ := w.Done()
		r := wire.NewReader(b)
		if got := kindOf(thing).read(r, enough); !same(got, thing) || r.Rest() != 0 || r.End() != (api.Fault{}) {
			t.Errorf("%T %v: %v, %v", thing, thing, got, r.End())
		}
	}
}

// P4.4: many things together are read as they were, and nothing is left.
func TestManyReadAsTheyWere(t *testing.T) {
	c := choice(4)
	all := things()
	for range 300 {
		var list []any
		w := newWriter(t, enough*10)
		for range c.below(20) {
			thing := all[c.below(len(all))]
			if err := write(w, thing); err != api.OK {
				t.Fatalf("%T %v: %v", thing, thing, err)
			}
			list = append(list, thing)
		}
		b, _ := w.Done()
		r := wire.NewReader(b)
		for i, thing := range list {
			if got := kindOf(thing).read(r, enough); !same(got, thing) {
				t.Fatalf("%d: %T %v: %v", i, thing, thing, got)
			}
		}
		if r.Rest() != 0 || r.End() != (api.Fault{}) {
			t.Fatalf("%d left, %v", r.Rest(), r.End())
		}
	}
}

// checkWrittenAgain reads a thing from b and, if there is one, expects to write the bytes that were read.
func checkWrittenAgain(t *testing.T, b []byte, k kind) bool {
	t.Helper()
	r := wire.NewReader(b)
	thing := k.read(r, enough)
	if f := r.End(); f.Err != api.OK && f.Err != api.ErrLong || f == tooLong(0) {
		return false
	}
	w := newWriter(t, len(b))
	err := write(w, thing)
	if got, _ := w.Done(); err != api.OK || !slices.Equal(got, b[:len(b)-r.Rest()]) {
		t.Fatalf("%v is read by %s as %v, which is written as %v, %v", b, k.what, thing, got, err)
	}
	return true
}

// P4.4: what is read from short bytes is written as these.
func TestWrittenAgain(t *testing.T) {
	for _, k := range kinds {
		read := 0
		for n := range 1 << 16 {
			for _, b := range [][]byte{{byte(n)}, {byte(n), byte(n >> 8)}, {193, byte(n), byte(n >> 8)}, {byte(n), byte(n >> 8), 1}, {2, byte(n), byte(n >> 8)}} {
				if checkWrittenAgain(t, b, k) {
					read++
				}
			}
		}
		if (read == 0) != (k.what == "ID") {
			t.Errorf("%s: %d were read", k.what, read)
		}
	}
}

// P4.4: what is read from bytes of all lengths, many of which are numbers of several bytes, is written as these.
func TestRandomWrittenAgain(t *testing.T) {
	c := choice(5)
	common := []byte{0, 0, 0, 1, 1, 2, 3, 127, 128, 191, 192, 192, 193, 194, 195, 196, 197, 198, 199, 199, 200, 255}
	for _, k := range kinds {
		read := 0
		for range 20000 {
			b := make([]byte, c.below(50))
			for i := range b {
				b[i] = common[c.below(len(common))]
			}
			if checkWrittenAgain(t, b, k) {
				read++
			}
		}
		if read == 0 {
			t.Errorf("%s: none was read", k.what)
		}
	}
}

// P4.4: bytes that differ are never read as the same thing: no number has a second encoding.
func TestOneEncoding(t *testing.T) {
	for _, n := range numbers() {
		form := number(n)
		for size := 1; size <= 9; size++ {
			if size == len(form) {
				continue
			}
			other := make([]byte, size)
			other[0] = byte(n)
			if size > 1 {
				other[0] = byte(190 + size)
				for i := 1; i < size; i++ {
					other[i] = byte(n >> (8 * (size - 1 - i)))
				}
			}
			r := wire.NewReader(other)
			if got := r.Num(); got == n && r.End() == (api.Fault{}) {
				t.Errorf("%d is read from %v and from %v", n, form, other)
			}
		}
	}
}
