package wire

import (
	"bytes"
	"math"

	"entrepot/api"
)

// Reader is bytes from which things are read, one behind the other. NewReader makes it.
type Reader struct {
	// A reader that NewReader did not make, a copied one too, does not know itself.
	self *Reader
	*first
	b  []byte
	at int // where the next thing begins
}

// NewReader returns a reader of b.
func NewReader(b []byte) *Reader {
	r := &Reader{first: &first{}, b: bytes.Clone(b)}
	r.self = r
	return r
}

// Num reads a number.
func (r *Reader) Num() int {
	return r.number(math.MaxInt, api.OK)
}

// Text reads a text that has a number of bytes at most.
func (r *Reader) Text(most int) string {
	return string(r.sized(most))
}

// Bytes reads bytes, a number of them at most.
func (r *Reader) Bytes(most int) []byte {
	return bytes.Clone(r.sized(most))
}

// ID reads a digest.
func (r *Reader) ID() api.ID {
	var id api.ID
	if r.reads() {
		copy(id[:], r.take(len(id), r.at))
	}
	return id
}

// Dot reads a dot.
func (r *Reader) Dot() api.Dot {
	d := api.Dot{R: r.Num()}
	d.N = r.Num()
	if !r.reads() {
		return api.Dot{}
	}
	return d
}

// Vector reads a vector that has a number of elements at most.
func (r *Reader) Vector(most int) []int {
	// The elements may be far fewer than their number says, so no memory is taken for that many.
	var v []int
	for range r.number(most, api.ErrLong) {
		v = append(v, r.Num())
		if !r.reads() {
			return nil
		}
	}
	return v
}

// Bool reads a bool.
func (r *Reader) Bool() bool {
	return r.number(1, api.ErrForm) == 1
}

// Rest returns the number of bytes that are left.
func (r *Reader) Rest() int {
	if !r.reads() {
		return 0
	}
	return len(r.b) - r.at
}

// End returns the first fault, or that bytes are left.
func (r *Reader) End() api.Fault {
	if !r.valid() {
		return api.Fault{Err: api.ErrNil}
	}
	if r.Rest() > 0 {
		return api.Fault{Err: api.ErrLong, At: r.at}
	}
	return r.fault
}

// valid reports whether NewReader made the reader.
func (r *Reader) valid() bool {
	return r != nil && r.self == r
}

// reads reports whether things can be read: a fault ends that.
func (r *Reader) reads() bool {
	return r.valid() && !r.failed()
}

// number reads a number, with a fault if it is above the most.
func (r *Reader) number(most int, above api.Errno) int {
	if !r.reads() {
		return 0
	}
	n, size, err := parseNumber(r.b[r.at:])
	if err == api.OK && n > most {
		err = above
	}
	if err != api.OK {
		r.keep(api.Fault{Err: err, At: r.at})
		return 0
	}
	r.at += size
	return n
}

// sized reads a number and as many bytes.
func (r *Reader) sized(most int) []byte {
	if !r.reads() {
		return nil
	}
	begin := r.at
	return r.take(r.number(most, api.ErrLong), begin)
}

// take reads bytes, with a fault where their thing begins if there are not as many.
func (r *Reader) take(n, begin int) []byte {
	if n > r.Rest() {
		r.keep(api.Fault{Err: api.ErrShort, At: begin})
		return nil
	}
	r.at += n
	return r.b[r.at-n : r.at]
}
