package wire_test

import (
	"bytes"
	"math"
	"math/big"
	"slices"
	"strings"
	"testing"

	"entrepot/api"
	"entrepot/wire"
)

// model is a reader, as the chapter defines it.
type model struct {
	b     []byte
	at    int
	fault api.Fault
}

func (m *model) fail(err api.Errno, at int) {
	if m.fault.Err == api.OK {
		m.fault = api.Fault{Err: err, At: at}
	}
}

func (m *model) num() int {
	if m.fault.Err != api.OK {
		return 0
	}
	left := m.b[m.at:]
	if len(left) == 0 {
		m.fail(api.ErrShort, m.at)
		return 0
	}
	k := max(int(left[0])-191, 0)
	if k > 8 {
		m.fail(api.ErrForm, m.at)
		return 0
	}
	if len(left) < 1+k {
		m.fail(api.ErrShort, m.at)
		return 0
	}
	x := new(big.Int).SetBytes(left[min(k, 1) : 1+k])
	if !x.IsInt64() || !bytes.Equal(number(int(x.Int64())), left[:1+k]) {
		m.fail(api.ErrForm, m.at)
		return 0
	}
	m.at += 1 + k
	return int(x.Int64())
}

// sized reads a number up to a most, and as many bytes.
func (m *model) sized(most int) []byte {
	begin := m.at
	n := m.num()
	if m.fault.Err == api.OK && n > most {
		m.fail(api.ErrLong, begin)
	}
	if m.fault.Err == api.OK && n > len(m.b)-m.at {
		m.fail(api.ErrShort, begin)
	}
	if m.fault.Err != api.OK {
		return nil
	}
	m.at += n
	return m.b[m.at-n : m.at]
}

func (m *model) id() (id api.ID) {
	if m.fault.Err == api.OK && len(m.b)-m.at < 32 {
		m.fail(api.ErrShort, m.at)
	}
	if m.fault.Err == api.OK {
		m.at += copy(id[:], m.b[m.at:])
	}
	return id
}

func (m *model) vector(most int) (v []int) {
	begin := m.at
	n := m.num()
	if m.fault.Err == api.OK && n > most {
		m.fail(api.ErrLong, begin)
	}
	for len(v) < n && m.fault.Err == api.OK {
		v = append(v, m.num())
	}
	return v
}

func (m *model) bool() bool {
	begin := m.at
	n := m.num()
	if n > 1 {
		m.fail(api.ErrForm, begin)
	}
	return n == 1
}

// read reads a thing of a kind, the zero value with a fault.
func (m *model) read(k kind, most int) any {
	x := m.any(k, most)
	if m.fault.Err != api.OK {
		return k.zero
	}
	return x
}

func (m *model) any(k kind, most int) any {
	switch k.what {
	case "Num":
		return m.num()
	case "Text":
		return string(m.sized(most))
	case "Bytes":
		return m.sized(most)
	case "ID":
		return m.id()
	case "Dot":
		r := m.num()
		return api.Dot{R: r, N: m.num()}
	case "Vector":
		return m.vector(most)
	}
	return m.bool()
}

func (m *model) rest() int {
	if m.fault.Err != api.OK {
		return 0
	}
	return len(m.b) - m.at
}

func (m *model) end() api.Fault {
	if m.rest() > 0 {
		return api.Fault{Err: api.ErrLong, At: m.at}
	}
	return m.fault
}

// compare reads things of kinds from b, with the program and with the model.
func compare(t *testing.T, b []byte, most int, list ...kind) {
	t.Helper()
	r, m := wire.NewReader(b), &model{b: b}
	for i, k := range list {
		if got, want := k.read(r, most), m.read(k, most); !same(got, want) {
			t.Fatalf("%v: %d: %s, most %d: %v, not %v", b, i, k.what, most, got, want)
		}
		if got, want := r.Rest(), m.rest(); got != want {
			t.Fatalf("%v: Rest after %s %d, most %d: %d, not %d", b, k.what, i, most, got, want)
		}
		if got, want := r.End(), m.end(); got != want {
			t.Fatalf("%v: End after %s %d, most %d: %v, not %v", b, k.what, i, most, got, want)
		}
	}
}

// checkFault reads one thing, behind something else, too, and expects a fault of it.
func checkFault(t *testing.T, b []byte, k kind, most int, want api.Fault) {
	t.Helper()
	for _, before := range [][]int{nil, {0}, {7, 200, 70000}} {
		var begin []byte
		for _, n := range before {
			begin = append(begin, number(n)...)
		}
		r := wire.NewReader(slices.Concat(begin, b))
		for range before {
			r.Num()
		}
		got := k.read(r, most)
		f := api.Fault{Err: want.Err, At: want.At + len(begin)}
		if !same(got, k.zero) || r.End() != f || r.Rest() != 0 {
			t.Errorf("%v from %d: %s, most %d: %v, %v, not %v", b, len(begin), k.what, most, got, r.End(), f)
		}
		checkEnded(t, r, f)
	}
}

// checkEnded expects that nothing more can be read.
func checkEnded(t *testing.T, r *wire.Reader, want api.Fault) {
	t.Helper()
	for range 2 {
		for _, k := range kinds {
			if got := k.read(r, 100); !same(got, k.zero) {
				t.Fatalf("%s after a fault: %v", k.what, got)
			}
			if r.Rest() != 0 || r.End() != want {
				t.Fatalf("after a fault: %d, %v, not %v", r.Rest(), r.End(), want)
			}
		}
	}
}

func short(at int) api.Fault   { return api.Fault{Err: api.ErrShort, At: at} }
func badForm(at int) api.Fault { return api.Fault{Err: api.ErrForm, At: at} }
func tooLong(at int) api.Fault { return api.Fault{Err: api.ErrLong, At: at} }

// P4.2: the faults of a number, of the length of a text and of bytes, of a vector's number of elements, of a bool, and of a dot's numbers.
func TestNumberFaults(t *testing.T) {
	cases := []struct {
		b    []byte
		want api.Fault
	}{
		{nil, short(0)},
		{[]byte{192}, short(0)},
		{[]byte{193}, short(0)},
		{[]byte{193, 1}, short(0)},
		{[]byte{193, 0}, short(0)},
		{[]byte{194, 1, 1}, short(0)},
		{[]byte{199}, short(0)},
		{[]byte{199, 255, 255, 255, 255, 255, 255, 255}, short(0)},
		{[]byte{200}, badForm(0)},
		{[]byte{255}, badForm(0)},
		{[]byte{200, 1, 0, 0, 0, 0, 0, 0, 0, 0}, badForm(0)},
		{[]byte{192, 0}, badForm(0)},
		{[]byte{192, 5}, badForm(0)},
		{[]byte{192, 191}, badForm(0)},
		{[]byte{193, 0, 9}, badForm(0)},
		{[]byte{193, 0, 255}, badForm(0)},
		{[]byte{194, 0, 255, 255}, badForm(0)},
		{[]byte{198, 0, 255, 255, 255, 255, 255, 255}, badForm(0)},
		{[]byte{199, 0, 255, 255, 255, 255, 255, 255, 255}, badForm(0)},
		{[]byte{199, 0, 0, 0, 0, 0, 0, 0, 0}, badForm(0)},
		{[]byte{199, 128, 0, 0, 0, 0, 0, 0, 0}, badForm(0)},
		{[]byte{199, 255, 255, 255, 255, 255, 255, 255, 255}, badForm(0)},
	}
	for _, c := range cases {
		for _, k := range []kind{numKind, textKind, bytesKind, vectorKind, boolKind, dotKind} {
			for _, most := range []int{math.MinInt, -1, 0, 100, math.MaxInt} {
				checkFault(t, c.b, k, most, c.want)
			}
		}
		for _, begin := range [][]byte{{5}, {192, 200}, number(1 << 40)} {
			checkFault(t, slices.Concat(begin, c.b), dotKind, 0, api.Fault{Err: c.want.Err, At: len(begin)})
		}
		for _, begin := range [][]byte{{1}, {2, 7}, {3, 192, 200, 0}, {191, 1, 2, 3}} {
			checkFault(t, slices.Concat(begin, c.b), vectorKind, 191, api.Fault{Err: c.want.Err, At: len(begin)})
		}
	}
}

// P4.2: each first byte of a number, with every number of bytes behind it.
func TestEachFirstByte(t *testing.T) {
	for x := range 256 {
		for _, c := range []byte{0, 1, 127, 128, 191, 192, 255} {
			for n := range 11 {
				compare(t, append([]byte{byte(x)}, bytes.Repeat([]byte{c}, n)...), 300, numKind, numKind, numKind)
			}
		}
	}
	for _, n := range numbers() {
		r := wire.NewReader(number(n))
		if got := r.Num(); got != n || r.End() != (api.Fault{}) || r.Rest() != 0 {
			t.Errorf("Num of %v = %d, %v", number(n), got, r.End())
		}
	}
}

// P4.2: lengths above the most, and above what is left.
func TestLengths(t *testing.T) {
	for _, k := range []kind{textKind, bytesKind} {
		checkFault(t, []byte{3, 97}, k, 9, short(0))
		checkFault(t, []byte{3, 97, 98, 99}, k, 2, tooLong(0))
		checkFault(t, []byte{3, 97}, k, 2, tooLong(0))
		checkFault(t, []byte{3}, k, 3, short(0))
		checkFault(t, []byte{1}, k, 0, tooLong(0))
		checkFault(t, []byte{0}, k, -1, tooLong(0))
		checkFault(t, []byte{0}, k, math.MinInt, tooLong(0))
		checkFault(t, []byte{192, 200, 97}, k, 199, tooLong(0))
		checkFault(t, []byte{192, 200, 97}, k, 200, short(0))
		for _, n := range []int{1 << 31, 1 << 32, 1<<32 + 1, 1<<62 + 1, math.MaxInt - 1, math.MaxInt} {
			checkFault(t, append(number(n), 97), k, math.MaxInt, short(0))
			checkFault(t, append(number(n), 97), k, n-1, tooLong(0))
		}
		for _, n := range []int{0, 1, 3, 190, 191, 192, 256, 70000} {
			b := encoding(strings.Repeat("a", n))
			for _, most := range []int{n, n + 1, math.MaxInt} {
				compare(t, b, most, k, k)
			}
			compare(t, b, n-1, k, k)
			compare(t, append(b, 1), n, k, numKind)
		}
	}
}

// P4.2: vectors that are too long, too short, or say that they are very long.
func TestVectorFaults(t *testing.T) {
	checkFault(t, []byte{3, 1, 2, 3}, vectorKind, 2, tooLong(0))
	checkFault(t, []byte{3, 200}, vectorKind, 2, tooLong(0))
	checkFault(t, []byte{0}, vectorKind, -1, tooLong(0))
	checkFault(t, []byte{3, 1, 2}, vectorKind, 3, short(3))
	checkFault(t, []byte{3, 1, 200, 2}, vectorKind, 3, badForm(2))
	checkFault(t, []byte{3, 1, 192}, vectorKind, 3, short(2))
	checkFault(t, []byte{3, 200, 192}, vectorKind, 3, badForm(1))
	for _, n := range []int{1 << 20, 1 << 32, 1 << 62, math.MaxInt} {
		begin := number(n)
		checkFault(t, begin, vectorKind, math.MaxInt, short(len(begin)))
		checkFault(t, append(begin, 1, 2, 3), vectorKind, n, short(len(begin)+3))
		checkFault(t, append(begin, 1, 2, 200, 3), vectorKind, n, badForm(len(begin)+2))
		checkFault(t, append(begin, 1, 2, 3), vectorKind, n-1, tooLong(0))
	}
	for _, v := range [][]int{{}, {0}, {1, 0, 200}, {math.MaxInt, 191, 192}, make([]int, 300)} {
		compare(t, encoding(v), len(v), vectorKind, vectorKind)
		compare(t, encoding(v), math.MaxInt, vectorKind, vectorKind)
		compare(t, encoding(v), len(v)-1, vectorKind, vectorKind)
		compare(t, append(encoding(v), 5), len(v), vectorKind, numKind)
	}
}

// P4.2: digests, with fewer bytes and with more.
func TestDigests(t *testing.T) {
	b := make([]byte, 40)
	for i := range b {
		b[i] = byte(255 - i)
	}
	for n := range 32 {
		checkFault(t, b[:n], idKind, 0, short(0))
	}
	for n := 32; n <= 40; n++ {
		r := wire.NewReader(b[:n])
		if got := r.ID(); got != api.ID(b[:32]) || r.Rest() != n-32 {
			t.Errorf("ID of %d bytes = %v, %d left", n, got, r.Rest())
		}
		compare(t, b[:n], 0, idKind, numKind, idKind)
	}
	compare(t, append(b[:32:32], b[:32]...), 0, idKind, idKind)
}

// P4.2: bools.
func TestBools(t *testing.T) {
	for x := range 192 {
		r := wire.NewReader([]byte{byte(x)})
		if got := r.Bool(); got != (x == 1) || x < 2 && r.End() != (api.Fault{}) || x > 1 && r.End() != badForm(0) {
			t.Errorf("Bool of %d = %v, %v", x, got, r.End())
		}
	}
	for _, n := range []int{192, 256, 257, 1 << 32, 1<<32 + 1, math.MaxInt} {
		checkFault(t, number(n), boolKind, 0, badForm(0))
	}
	checkFault(t, []byte{2}, boolKind, 0, badForm(0))
	checkFault(t, []byte{2, 1}, boolKind, 0, badForm(0))
}

// P4.3: Rest and End, from the beginning to the end, and that asking changes nothing.
func TestRestAndEnd(t *testing.T) {
	r := wire.NewReader([]byte{1, 2, 7})
	if got := r.Dot(); got != (api.Dot{R: 1, N: 2}) || r.End() != tooLong(2) {
		t.Errorf("Dot = %v, %v", got, r.End())
	}
	var all []byte
	list := things()
	for _, thing := range list {
		all = append(all, encoding(thing)...)
	}
	r = wire.NewReader(all)
	at := 0
	for _, thing := range list {
		for range 2 {
			if r.Rest() != len(all)-at || r.End() != tooLong(at) {
				t.Fatalf("at %d of %d: %d, %v", at, len(all), r.Rest(), r.End())
			}
		}
		if got := kindOf(thing).read(r, 70000); !same(got, thing) {
			t.Fatalf("%T at %d: %v, not %v", thing, at, got, thing)
		}
		at += len(encoding(thing))
	}
	for range 2 {
		if r.Rest() != 0 || r.End() != (api.Fault{}) {
			t.Errorf("at the end: %d, %v", r.Rest(), r.End())
		}
	}
	if r.Num() != 0 || r.End() != short(at) {
		t.Errorf("behind the end: %v", r.End())
	}
	checkEnded(t, r, short(at))
	for _, b := range [][]byte{nil, {}} {
		r = wire.NewReader(b)
		if r == nil || r.Rest() != 0 || r.End() != (api.Fault{}) {
			t.Errorf("a reader of no bytes: %v", r)
		}
	}
}

// P4.3: after a fault nothing is read, though there are bytes that could be.
func TestAfterAFault(t *testing.T) {
	whole := bytes.Repeat([]byte{1}, 100)
	cases := []struct {
		b    []byte
		k    kind
		most int
		want api.Fault
	}{
		{[]byte{200}, numKind, 0, badForm(0)},
		{[]byte{2}, boolKind, 0, badForm(0)},
		{[]byte{3}, textKind, 2, tooLong(0)},
		{[]byte{3}, bytesKind, 2, tooLong(0)},
		{[]byte{3}, vectorKind, 2, tooLong(0)},
		{[]byte{191}, textKind, 191, short(0)},
		{[]byte{191}, bytesKind, 191, short(0)},
		{[]byte{1, 200}, dotKind, 0, badForm(1)},
		{[]byte{2, 1, 200}, vectorKind, 2, badForm(2)},
	}
	for _, c := range cases {
		checkFault(t, slices.Concat(c.b, whole), c.k, c.most, c.want)
	}
	checkFault(t, whole[:31], idKind, 0, short(0))
}

// P4.2, P4.3: whatever is read from all short bytes, one thing after another.
func TestShortBytes(t *testing.T) {
	list := []byte{0, 1, 2, 3, 191, 192, 193, 194, 199, 200, 255}
	var grow func(b []byte, n int)
	grow = func(b []byte, n int) {
		for i, k := range kinds {
			for most := range 4 {
				compare(t, b, most, k, kinds[(i+most)%len(kinds)], k)
			}
		}
		if n == 0 {
			return
		}
		for _, x := range list {
			grow(append(slices.Clone(b), x), n-1)
		}
	}
	grow(nil, 3)
}

// P4.2: a reader keeps nothing of what it was given, and returns new memory.
func TestReaderMemory(t *testing.T) {
	room := slices.Concat(encoding("text"), encoding([]byte("bytes")), encoding([]int{7, 8}), encoding([]byte("last")), []byte("behind"))
	b := slices.Clone(room)
	r := wire.NewReader(b[:len(b)-6])
	clear(b)
	s, c, v := r.Text(9), r.Bytes(9), r.Vector(9)
	if s != "text" || string(c) != "bytes" || !slices.Equal(v, []int{7, 8}) {
		t.Fatalf("the bytes were kept: %q, %q, %v", s, c, v)
	}
	clear(c[:cap(c)])
	clear(v[:cap(v)])
	if last := r.Bytes(9); string(last) != "last" || r.End() != (api.Fault{}) {
		t.Errorf("what Bytes returned is shared: %q, %v", last, r.End())
	}
	b = slices.Clone(room)
	r = wire.NewReader(b[:len(b)-6])
	c = r.Bytes(9)
	clear(c[:cap(c)])
	r.Num()
	if !bytes.Equal(b, room) {
		t.Errorf("the bytes were changed: %v", b)
	}
	if string(c) != "\x00\x00\x00\x00" {
		t.Errorf("what Bytes returned was changed: %q", c)
	}
}

// P4.3: readers do not know of each other.
func TestTwoReaders(t *testing.T) {
	b := []byte{1, 2, 200}
	one, other := wire.NewReader(b), wire.NewReader(b)
	if one.Dot(); one.Num() != 0 || one.End() != badForm(2) {
		t.Errorf("one: %v", one.End())
	}
	if other.Rest() != 3 || other.Num() != 1 || other.End() != tooLong(1) {
		t.Errorf("the other: %v", other.End())
	}
}

// P4.3: a reader that NewReader did not return.
func TestInvalidReader(t *testing.T) {
	used, failed := wire.NewReader(make([]byte, 100)), wire.NewReader([]byte{200})
	failed.Num()
	copied, wrong := *used, *failed
	for i, r := range []*wire.Reader{nil, {}, new(wire.Reader), &copied, &wrong} {
		for _, k := range kinds {
			for _, most := range []int{-1, 0, 9} {
				if got := k.read(r, most); !same(got, k.zero) {
					t.Errorf("%d: %s = %v", i, k.what, got)
				}
			}
			if r.Rest() != 0 || r.End() != (api.Fault{Err: api.ErrNil}) {
				t.Errorf("%d: %d, %v", i, r.Rest(), r.End())
			}
		}
	}
	if used.Rest() != 100 || used.End() != tooLong(0) || failed.End() != badForm(0) {
		t.Errorf("what was copied: %d, %v, %v", used.Rest(), used.End(), failed.End())
	}
}
