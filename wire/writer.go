package wire

import (
	"bytes"

	"entrepot/api"
)

// Writer is things, one behind the other, as bytes. NewWriter makes it.
type Writer struct {
	// A writer that NewWriter did not make, a copied one too, does not know itself.
	self *Writer
	*first
	b     []byte
	limit int
}

// NewWriter returns a writer that takes bytes up to a limit.
func NewWriter(limit int) (*Writer, api.Errno) {
	if limit < 0 || limit > api.MaxWire {
		return nil, api.ErrRange
	}
	w := &Writer{first: &first{}, limit: limit}
	w.self = w
	return w, api.OK
}

// Num writes a number.
func (w *Writer) Num(n int) api.Errno {
	return w.write(n)
}

// Text writes a text.
func (w *Writer) Text(s string) api.Errno {
	return w.write(s)
}

// Bytes writes bytes, and how many there are.
func (w *Writer) Bytes(b []byte) api.Errno {
	return w.write(b)
}

// ID writes a digest.
func (w *Writer) ID(id api.ID) api.Errno {
	return w.write(id)
}

// Dot writes a dot.
func (w *Writer) Dot(d api.Dot) api.Errno {
	return w.write(d)
}

// Vector writes a vector.
func (w *Writer) Vector(v []int) api.Errno {
	return w.write(v)
}

// Bool writes a bool.
func (w *Writer) Bool(x bool) api.Errno {
	return w.write(x)
}

// Len returns the number of bytes written.
func (w *Writer) Len() int {
	if !w.valid() {
		return 0
	}
	return len(w.b)
}

// Done returns all bytes written, unless there was an error.
func (w *Writer) Done() ([]byte, api.Errno) {
	if !w.valid() {
		return nil, api.ErrNil
	}
	if w.failed() {
		return nil, w.fault.Err
	}
	return bytes.Clone(w.b), api.OK
}

// valid reports whether NewWriter made the writer.
func (w *Writer) valid() bool {
	return w != nil && w.self == w
}

// write writes a thing completely or not at all, and returns the first error.
func (w *Writer) write(thing any) api.Errno {
	if !w.valid() {
		return api.ErrNil
	}
	if w.failed() {
		return w.fault.Err
	}
	d := draft{b: w.b, limit: w.limit}
	encode(&d, thing)
	w.keep(api.Fault{Err: d.err()})
	if !w.failed() {
		w.b = d.b
	}
	return w.fault.Err
}

// encode appends the encoding of a thing of any kind that there is.
func encode(d *draft, thing any) {
	switch x := thing.(type) {
	case int:
		d.number(x)
	case string:
		d.number(len(x))
		raw(d, x)
	case []byte:
		d.number(len(x))
		raw(d, x)
	case api.ID:
		raw(d, x[:])
	case api.Dot:
		d.number(x.R)
		d.number(x.N)
	case []int:
		d.number(len(x))
		for _, n := range x {
			d.number(n)
		}
	case bool:
		d.truth(x)
	}
}

// draft is bytes with a thing behind them that may turn out not to be possible. What is wrong is only noted: a number after the limit may still be negative, which counts more.
type draft struct {
	b              []byte
	limit          int
	negative, long bool
}

func (d *draft) number(n int) {
	if n < 0 {
		d.negative = true
		return
	}
	if d.fits(numberSize(n)) {
		d.b = appendNumber(d.b, n)
	}
}

func (d *draft) truth(x bool) {
	if x {
		d.number(1)
		return
	}
	d.number(0)
}

// raw appends bytes as they are.
func raw[B string | []byte](d *draft, b B) {
	if d.fits(len(b)) {
		d.b = append(d.b, b...)
	}
}

// fits reports whether a number of further bytes, and all before them, are within the limit.
func (d *draft) fits(size int) bool {
	d.long = d.long || size > d.limit-len(d.b)
	return !d.long
}

func (d *draft) err() api.Errno {
	switch {
	case d.negative:
		return api.ErrRange
	case d.long:
		return api.ErrLong
	}
	return api.OK
}
