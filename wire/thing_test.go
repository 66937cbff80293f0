package wire_test

import (
	"bytes"
	"fmt"
	"math"
	"math/big"
	"slices"
	"strings"
	"testing"

	"entrepot/api"
	"entrepot/wire"
)

// kind is a kind of things: how one is read, and the zero value that is read with a fault.
type kind struct {
	what string
	read func(r *wire.Reader, most int) any
	zero any
}

var (
	numKind    = kind{"Num", func(r *wire.Reader, _ int) any { return r.Num() }, 0}
	textKind   = kind{"Text", func(r *wire.Reader, most int) any { return r.Text(most) }, ""}
	bytesKind  = kind{"Bytes", func(r *wire.Reader, most int) any { return r.Bytes(most) }, []byte{}}
	idKind     = kind{"ID", func(r *wire.Reader, _ int) any { return r.ID() }, api.ID{}}
	dotKind    = kind{"Dot", func(r *wire.Reader, _ int) any { return r.Dot() }, api.Dot{}}
	vectorKind = kind{"Vector", func(r *wire.Reader, most int) any { return r.Vector(most) }, []int{}}
	boolKind   = kind{"Bool", func(r *wire.Reader, _ int) any { return r.Bool() }, false}
	kinds      = []kind{numKind, textKind, bytesKind, idKind, dotKind, vectorKind, boolKind}
)

// same reports whether two things are the same, where no list and an empty one are.
func same(a, b any) bool {
	return fmt.Sprintf("%T %v", a, a) == fmt.Sprintf("%T %v", b, b)
}

// write calls the method for a thing.
func write(w *wire.Writer, thing any) api.Errno {
	switch x := thing.(type) {
	case int:
		return w.Num(x)
	case string:
		return w.Text(x)
	case []byte:
		return w.Bytes(x)
	case api.ID:
		return w.ID(x)
	case api.Dot:
		return w.Dot(x)
	case []int:
		return w.Vector(x)
	}
	return w.Bool(thing.(bool))
}

// kindOf returns the kind of a thing.
func kindOf(thing any) kind {
	return kinds[slices.IndexFunc(kinds, func(k kind) bool { return fmt.Sprintf("%T", k.zero) == fmt.Sprintf("%T", thing) })]
}

// number is the encoding of a number, as the chapter defines it.
func number(n int) []byte {
	if n <= 191 {
		return []byte{byte(n)}
	}
	b := big.NewInt(int64(n)).Bytes()
	return append([]byte{byte(191 + len(b))}, b...)
}

// encoding is the encoding of a thing, as the chapter defines it.
func encoding(thing any) []byte {
	switch x := thing.(type) {
	case int:
		return number(x)
	case string:
		return append(number(len(x)), x...)
	case []byte:
		return append(number(len(x)), x...)
	case api.ID:
		return x[:]
	case api.Dot:
		return append(number(x.R), number(x.N)...)
	case []int:
		b := number(len(x))
		for _, n := range x {
			b = append(b, number(n)...)
		}
		return b
	}
	if thing.(bool) {
		return []byte{1}
	}
	return []byte{0}
}

// numbers returns numbers of every size, and those about the limits of the sizes.
func numbers() []int {
	list := []int{2, 3, 100, 190, 191, 192, 193, 194, 199, 200, 254, math.MaxInt - 1, math.MaxInt}
	for i := range 63 {
		list = append(list, 1<<i-1, 1<<i, 1<<i+1, 1<<i|1<<i/3)
	}
	return list
}

// things returns things of every kind.
func things() []any {
	list := []any{true, false, api.ID{}, api.ID{9}, api.ID{31: 200}, []int(nil), []byte(nil), []int{}, []byte{}}
	for _, n := range numbers() {
		list = append(list, n, api.Dot{R: n, N: 5}, api.Dot{R: 1, N: n}, []int{n}, []int{0, n, 191, n})
	}
	for _, n := range []int{0, 1, 2, 31, 32, 33, 190, 191, 192, 193, 255, 256, 257, 70000} {
		list = append(list, strings.Repeat("\u00E4\x00", n)[:n], bytes.Repeat([]byte{0, 193, 255}, n)[:n], make([]int, n), slices.Repeat([]int{192}, n))
	}
	return append(list, "library/go", "\xFF\xFE", api.ID(bytes.Repeat([]byte{0xC8}, 32)), []int{1, 0, 200}, []int{math.MaxInt, 0, 256})
}

func newWriter(t *testing.T, limit int) *wire.Writer {
	t.Helper()
	w, err := wire.NewWriter(limit)
	if w == nil || err != api.OK {
		t.Fatalf("NewWriter(%d) = %v, %v", limit, w, err)
	}
	return w
}

// checkWriter asks a writer what was written.
func checkWriter(t *testing.T, w *wire.Writer, want []byte) {
	t.Helper()
	if got, err := w.Done(); !bytes.Equal(got, want) || err != api.OK {
		t.Fatalf("Done = %v, %v, not %v", got, err, want)
	}
	if got := w.Len(); got != len(want) {
		t.Fatalf("Len = %d, not %d", got, len(want))
	}
}

// checkFailed asks a writer of n bytes for its first error, in every way.
func checkFailed(t *testing.T, w *wire.Writer, n int, want api.Errno) {
	t.Helper()
	for _, thing := range []any{0, "", []byte{}, api.ID{}, api.Dot{}, []int{}, false, -1, api.Dot{R: -1}, []int{-1}, 1 << 40} {
		if err := write(w, thing); err != want {
			t.Fatalf("%T %v after a first error: %v, not %v", thing, thing, err, want)
		}
	}
	if got, err := w.Done(); len(got) != 0 || err != want {
		t.Fatalf("Done after a first error: %v, %v, not %v", got, err, want)
	}
	if got := w.Len(); got != n {
		t.Fatalf("Len after a first error: %d, not %d", got, n)
	}
}
