package wire_test

import (
	"bytes"
	"math"
	"slices"
	"strings"
	"testing"

	"entrepot/api"
	"entrepot/wire"
)

// P4.1: NewWriter.
func TestNewWriter(t *testing.T) {
	for _, limit := range []int{-1, -2, math.MinInt, 1<<26 + 1, 1 << 27, 1 << 32, 1<<32 + 1, math.MaxInt} {
		if w, err := wire.NewWriter(limit); w != nil || err != api.ErrRange {
			t.Errorf("NewWriter(%d) = %v, %v", limit, w, err)
		}
	}
	for _, limit := range []int{0, 1, 2, 1000, 1<<26 - 1, 1 << 26} {
		w := newWriter(t, limit)
		checkWriter(t, w, nil)
		if limit > 0 && w.Num(7) != api.OK {
			t.Errorf("a limit of %d: nothing can be written", limit)
		}
	}
}

// P4.1: the examples of the chapter.
func TestWriterExamples(t *testing.T) {
	cases := []struct {
		n    int
		want []byte
	}{
		{0, []byte{0}},
		{191, []byte{191}},
		{192, []byte{192, 192}},
		{255, []byte{192, 255}},
		{256, []byte{193, 1, 0}},
		{1<<63 - 1, []byte{199, 127, 255, 255, 255, 255, 255, 255, 255}},
	}
	for _, c := range cases {
		w := newWriter(t, 9)
		if err := w.Num(c.n); err != api.OK {
			t.Errorf("Num(%d): %v", c.n, err)
		}
		checkWriter(t, w, c.want)
	}
	w := newWriter(t, 5)
	if w.Text("abc") != api.OK || w.Num(-1) != api.ErrRange || w.Num(1) != api.ErrRange {
		t.Error("a writer of 5")
	}
	checkFailed(t, w, 4, api.ErrRange)
	w = newWriter(t, 3)
	if err := w.Text("abc"); err != api.ErrLong {
		t.Errorf("a writer of 3: %v", err)
	}
	checkFailed(t, w, 0, api.ErrLong)
}

// P4.1: each thing alone.
func TestEncoding(t *testing.T) {
	for _, thing := range things() {
		w := newWriter(t, 1<<20)
		if err := write(w, thing); err != api.OK {
			t.Errorf("%T %v: %v", thing, thing, err)
		}
		checkWriter(t, w, encoding(thing))
	}
}

// P4.1: things one behind the other, and asking in between changes nothing.
func TestManyThings(t *testing.T) {
	w := newWriter(t, 1<<26)
	var all []byte
	for _, thing := range things() {
		if err := write(w, thing); err != api.OK {
			t.Fatalf("%T %v: %v", thing, thing, err)
		}
		all = append(all, encoding(thing)...)
		checkWriter(t, w, all)
		checkWriter(t, w, all)
	}
}

// P4.1: each thing up to the limit, and one byte more, with and without something before it.
func TestWriterLimit(t *testing.T) {
	for _, thing := range things() {
		form := encoding(thing)
		for _, before := range []string{"", "entrepot"} {
			begin := encoding(before)
			for _, missing := range []int{len(form), len(form) - 1, 1, 0} {
				w := newWriter(t, len(begin)+len(form)-missing)
				if err := w.Text(before); err != api.OK {
					t.Fatalf("Text(%s): %v", before, err)
				}
				err, written := write(w, thing), begin
				if missing == 0 {
					if err != api.OK {
						t.Fatalf("%T of %d bytes into as many: %v", thing, len(form), err)
					}
					written = slices.Concat(begin, form)
					checkWriter(t, w, written)
					err = w.Num(0)
				}
				if err != api.ErrLong {
					t.Fatalf("%T of %d bytes, %d too many: %v", thing, len(form), missing, err)
				}
				checkFailed(t, w, len(written), api.ErrLong)
			}
		}
	}
}

// P4.1: a thing of several parts is written as a whole or not at all, wherever the limit is within it.
func TestNothingOfAThing(t *testing.T) {
	for _, thing := range []any{"entrepot", []byte("entrepot"), api.ID{1, 2}, api.Dot{R: 300, N: 70000}, []int{1, 300, 2, 70000, 3}, 1 << 62} {
		form := encoding(thing)
		for limit := 1; limit <= len(form); limit++ {
			w := newWriter(t, limit)
			w.Num(5)
			if err := write(w, thing); err != api.ErrLong {
				t.Errorf("%T %v, a limit of %d: %v", thing, thing, limit, err)
			}
			checkFailed(t, w, 1, api.ErrLong)
		}
	}
	// What follows a part that is too long does not come instead of it.
	w := newWriter(t, 4)
	if err := w.Vector([]int{1 << 40, 1, 1}); err != api.ErrLong {
		t.Errorf("a vector that begins with a long number: %v", err)
	}
	checkFailed(t, w, 0, api.ErrLong)
}

// P4.1: the greatest limit.
func TestGreatestLimit(t *testing.T) {
	w := newWriter(t, 1<<26)
	b := bytes.Repeat([]byte("entrepot"), 1<<23)
	if err := w.Bytes(b[:1<<26-5]); err != api.OK || w.Len() != 1<<26 {
		t.Errorf("as many bytes as the limit: %v, %d", err, w.Len())
	}
	if err := w.Bool(true); err != api.ErrLong {
		t.Errorf("one byte more: %v", err)
	}
	checkFailed(t, w, 1<<26, api.ErrLong)
	w = newWriter(t, 1<<26)
	if err := w.Text(string(b[:1<<26-4])); err != api.ErrLong {
		t.Errorf("a text of one byte more: %v", err)
	}
	checkFailed(t, w, 0, api.ErrLong)
}

// P4.1: numbers below 0, which count more than the limit does.
func TestNegativeNumbers(t *testing.T) {
	for _, n := range []int{-1, -2, -191, -192, -256, math.MinInt32, math.MinInt + 1, math.MinInt} {
		for _, thing := range []any{
			n, api.Dot{R: n}, api.Dot{N: n}, api.Dot{R: n, N: n}, api.Dot{R: math.MaxInt, N: n}, api.Dot{R: n, N: math.MaxInt},
			[]int{n}, []int{n, 1}, []int{1, n}, []int{1, 2, n, 4}, append(make([]int, 1000), n), []int{math.MaxInt, n}, []int{n, math.MaxInt},
		} {
			for _, limit := range []int{1, 2, 3, 8, 500, 1000, 1001, 2000} {
				w := newWriter(t, limit)
				w.Num(5)
				if err := write(w, thing); err != api.ErrRange {
					t.Errorf("%T with %d, a limit of %d: %v", thing, n, limit, err)
				}
				checkFailed(t, w, 1, api.ErrRange)
			}
			if err := write(newWriter(t, 0), thing); err != api.ErrRange {
				t.Errorf("%T with %d, a limit of 0: %v", thing, n, err)
			}
		}
	}
}

// P4.1: the first error stays the error, whichever it is.
func TestFirstError(t *testing.T) {
	w := newWriter(t, 10)
	if w.Num(3) != api.OK || w.Text("too long for it") != api.ErrLong || w.Num(-1) != api.ErrLong {
		t.Error("first too long, then below 0")
	}
	checkFailed(t, w, 1, api.ErrLong)
	w = newWriter(t, 10)
	if w.Num(3) != api.OK || w.Vector([]int{4, -1}) != api.ErrRange || w.Text("too long for it") != api.ErrRange {
		t.Error("first below 0, then too long")
	}
	checkFailed(t, w, 1, api.ErrRange)
}

// P4.1: what is given is not changed and not kept, and what Done returns is new each time.
func TestWriterMemory(t *testing.T) {
	room := []byte("entrepot, and behind it")
	v := []int{1, 200, 3, 99, 98}
	w := newWriter(t, 100)
	w.Bytes(room[:8])
	w.Vector(v[:3])
	if string(room) != "entrepot, and behind it" || !slices.Equal(v, []int{1, 200, 3, 99, 98}) {
		t.Errorf("a thing was changed: %s, %v", room, v)
	}
	want := slices.Concat(encoding("entrepot"), encoding([]int{1, 200, 3}))
	clear(room)
	clear(v)
	checkWriter(t, w, want)
	for range 3 {
		b, _ := w.Done()
		clear(b[:cap(b)])
		checkWriter(t, w, want)
		before, _ := w.Done()
		w.Text("more")
		if !bytes.Equal(before, want) {
			t.Errorf("what Done returned was changed: %v", before)
		}
		want = append(want, encoding("more")...)
		checkWriter(t, w, want)
		clear(before[:cap(before)])
		checkWriter(t, w, want)
	}
}

// P4.1: writers do not know of each other.
func TestTwoWriters(t *testing.T) {
	a, b := newWriter(t, 100), newWriter(t, 5)
	a.Text("one")
	b.Text("two")
	if b.Text("long") != api.ErrLong || a.Num(9) != api.OK {
		t.Error("an error of another writer")
	}
	checkWriter(t, a, []byte("\x03one\x09"))
	checkFailed(t, b, 4, api.ErrLong)
}

// P4.1: a writer that NewWriter did not return.
func TestInvalidWriter(t *testing.T) {
	used, failed := newWriter(t, 100), newWriter(t, 3)
	used.Text("abc")
	failed.Num(-1)
	copied, wrong := *used, *failed
	for i, w := range []*wire.Writer{nil, {}, new(wire.Writer), &copied, &wrong} {
		for _, thing := range []any{0, -1, "", strings.Repeat("a", 200), []byte{1}, api.ID{}, api.Dot{R: -1}, []int{-1}, []int{}, true} {
			if err := write(w, thing); err != api.ErrNil {
				t.Errorf("%d: %T %v: %v", i, thing, thing, err)
			}
		}
		if got := w.Len(); got != 0 {
			t.Errorf("%d: Len = %d", i, got)
		}
		if got, err := w.Done(); len(got) != 0 || err != api.ErrNil {
			t.Errorf("%d: Done = %v, %v", i, got, err)
		}
	}
	checkWriter(t, used, []byte("\x03abc"))
	checkFailed(t, failed, 0, api.ErrRange)
}
