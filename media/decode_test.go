package media_test

import (
	"bytes"
	"math"
	"slices"
	"strings"
	"testing"

	"entrepot/api"
	"entrepot/media"
)

// P11.2: no bytes, and each beginning of an encoding.
func TestBeginnings(t *testing.T) {
	checkFault(t, nil, api.ErrShort, 0)
	checkFault(t, []byte{}, api.ErrShort, 0)
	for _, m := range manifests() {
		b := encoding(m)
		for n := range b {
			if _, f := media.Decode(b[:n]); f.Err != api.ErrShort {
				t.Fatalf("%v: %v", b[:n], f)
			}
			checkDecode(t, b[:n])
		}
	}
}

// P11.2: bytes that are left, of whatever kind; a fault ahead of them counts.
func TestBytesLeft(t *testing.T) {
	for _, m := range manifests() {
		b := encoding(m)
		for _, more := range [][]byte{{0}, {77}, {200}, {255, 255}, b} {
			if len(b)+len(more) <= mostBytes {
				checkFault(t, slices.Concat(b, more), api.ErrLong, len(b))
			}
		}
	}
	checkFault(t, []byte{77, 4, 0, 200, 0}, api.ErrForm, 3)
	checkFault(t, []byte{77, 5, 0, 0, 0}, api.ErrMedia, 0)
	checkFault(t, append([]byte{77, 4, 0, 0}, make([]byte, 4092)...), api.ErrLong, 4)
	checkFault(t, append([]byte{77, 4, 0, 0}, make([]byte, 4093)...), api.ErrLong, 4096)
}

// P11.2: more than 4,096 bytes, whatever they are.
func TestTooManyBytes(t *testing.T) {
	for _, begin := range [][]byte{{}, {0}, {76}, {200}, {77, 3}, {77, 4, 0, 0}, {77, 4, 0, 9}, encoding(manifests()[5])} {
		for _, n := range []int{4097, 4098, 5000, 8192, 65536 + 4096, 1 << 20} {
			checkFault(t, append(slices.Clone(begin), make([]byte, n-len(begin))...), api.ErrLong, 4096)
		}
		b := append(slices.Clone(begin), make([]byte, 4096-len(begin))...)
		if _, f := media.Decode(b); f == (api.Fault{Err: api.ErrLong, At: 4096}) {
			t.Errorf("4,096 bytes that begin with %v are too many", begin)
		}
		checkDecode(t, b)
	}
}

// P11.2: the first number and the second one, and which fault comes first: what stands behind them is not read before.
func TestFirstNumbers(t *testing.T) {
	rest := []byte{0, 0}
	for n := range 192 {
		if n != 77 {
			checkFault(t, []byte{byte(n)}, api.ErrMedia, 0)
			checkFault(t, []byte{byte(n), 3}, api.ErrMedia, 0)
			checkFault(t, []byte{byte(n), 200}, api.ErrMedia, 0)
			checkFault(t, []byte{byte(n), 4, 0, 9}, api.ErrMedia, 0)
			checkFault(t, append([]byte{byte(n), 4}, rest...), api.ErrMedia, 0)
		}
		if n != 3 && n != 4 {
			checkFault(t, []byte{77, byte(n)}, api.ErrMedia, 0)
			checkFault(t, []byte{77, byte(n), 200}, api.ErrMedia, 0)
			checkFault(t, []byte{77, byte(n), 0, 9}, api.ErrMedia, 0)
			checkFault(t, append([]byte{77, byte(n)}, rest...), api.ErrMedia, 0)
		}
	}
	for _, n := range numbers() {
		if n != 77 {
			checkFault(t, append(number(n), 4, 0, 0), api.ErrMedia, 0)
			checkFault(t, number(n), api.ErrMedia, 0)
		}
		if n != 3 && n != 4 {
			checkFault(t, slices.Concat([]byte{77}, number(n), rest), api.ErrMedia, 0)
			checkFault(t, slices.Concat([]byte{77}, number(n)), api.ErrMedia, 0)
		}
	}
	checkFault(t, []byte{77}, api.ErrShort, 1)
	checkFault(t, []byte{77, 3}, api.ErrShort, 2)
	checkFault(t, []byte{77, 4}, api.ErrShort, 2)
	checkFault(t, []byte{200, 4, 0, 0}, api.ErrForm, 0)
	checkFault(t, []byte{77, 200, 0, 0}, api.ErrForm, 1)
	checkFault(t, []byte{192, 77, 4, 0, 0}, api.ErrForm, 0)
	checkFault(t, []byte{77, 192, 4, 0, 0}, api.ErrForm, 1)
	checkFault(t, []byte{77, 193, 0, 4, 0, 0}, api.ErrForm, 1)
	checkFault(t, []byte{193, 1}, api.ErrShort, 0)
	checkFault(t, []byte{77, 193, 1}, api.ErrShort, 1)
}

// ahead is, by a name, what may stand ahead of a text or a number of an encoding.
func ahead() map[string][]byte {
	id := bytes.Repeat([]byte{9}, 32)
	config := slices.Concat([]byte{1}, id, []byte{2, 0})
	return map[string][]byte{
		"title of an image":         {77, 3},
		"title of an index":         {77, 4},
		"platform of a config":      slices.Concat([]byte{77, 3, 1, 'T', 1}, id, []byte{2}),
		"platform of a first layer": slices.Concat([]byte{77, 3, 0}, config, []byte{2, 2}, id, []byte{200 - 9}),
		"platform of a last layer":  slices.Concat([]byte{77, 3, 0}, config, []byte{2}, config, []byte{2}, id, []byte{2}),
		"platform of a sub":         slices.Concat([]byte{77, 4, 0, 1, 3}, id, []byte{193, 1, 0}),
	}
}

// P11.2: texts have at most 4,096 bytes; fewer that are left are a fault as well.
func TestTexts(t *testing.T) {
	for what, b := range ahead() {
		for _, n := range []int{4097, 4098, 8192, 65536, 1 << 20, 1 << 32, math.MaxInt} {
			checkFault(t, slices.Concat(b, number(n)), api.ErrLong, len(b))
			checkFault(t, slices.Concat(b, number(n), make([]byte, 3000)), api.ErrLong, len(b))
		}
		for _, n := range []int{1, 2, 191, 192, 1000, 4000, 4095, 4096} {
			checkFault(t, slices.Concat(b, number(n)), api.ErrShort, len(b))
			most := min(n-1, mostBytes-len(b)-len(number(n)))
			checkFault(t, slices.Concat(b, number(n), make([]byte, most)), api.ErrShort, len(b))
		}
		checkFault(t, b, api.ErrShort, len(b))
		checkFault(t, append(slices.Clone(b), 200), api.ErrForm, len(b))
		checkFault(t, append(slices.Clone(b), 192, 5), api.ErrForm, len(b))
		if t.Failed() {
			t.Fatal(what)
		}
	}
}

// P11.2: numbers and digests of a description that cannot be read, in each place.
func TestDescriptionFaults(t *testing.T) {
	whole := slices.Concat([]byte{1}, make([]byte, 32), []byte{2, 0})
	begins := [][]byte{{77, 3, 0}, {77, 4, 0, 1}, {77, 3, 2, 'a', 'b'}}
	for n := range 15 {
		begins = append(begins, slices.Concat([]byte{77, 3, 0}, whole, []byte{16}, bytes.Repeat(whole, n+1)))
		if n < 7 {
			begins = append(begins, slices.Concat([]byte{77, 4, 0, 8}, bytes.Repeat(whole, n+1)))
		}
	}
	for _, b := range begins {
		at := len(b)
		checkFault(t, append(slices.Clone(b), 200), api.ErrForm, at)
		checkFault(t, append(slices.Clone(b), 192, 5), api.ErrForm, at)
		checkFault(t, append(slices.Clone(b), 199, 128, 0, 0, 0, 0, 0, 0, 0), api.ErrForm, at)
		checkFault(t, append(slices.Clone(b), 1), api.ErrShort, at+1)
		checkFault(t, slices.Concat(b, whole[:32]), api.ErrShort, at+1)
		checkFault(t, slices.Concat(b, whole[:33]), api.ErrShort, at+33)
		checkFault(t, slices.Concat(b, whole[:33], []byte{200}), api.ErrForm, at+33)
		checkFault(t, slices.Concat(b, whole[:33], []byte{193, 0, 200}), api.ErrForm, at+33)
		checkFault(t, slices.Concat(b, whole[:34]), api.ErrShort, at+34)
	}
}

// P11.2: numbers of layers and of subs above the most, where they begin, whatever follows; other faults of these numbers.
func TestNumbersOfThings(t *testing.T) {
	whole := slices.Concat([]byte{1}, make([]byte, 32), []byte{2, 0})
	for _, title := range []string{"", "a", strings.Repeat("t", 191), strings.Repeat("t", 300)} {
		for most, b := range map[int][]byte{16: slices.Concat([]byte{77, 3}, text(title), whole), 8: slices.Concat([]byte{77, 4}, text(title))} {
			for _, n := range append(numbers(), 9, 10, 16, 17, 18, 30, 264, 272) {
				if n <= most {
					continue
				}
				for _, more := range [][]byte{nil, {200}, whole, bytes.Repeat(whole, min(n, 30))} {
					checkFault(t, slices.Concat(b, number(n), more), api.ErrLong, len(b))
				}
			}
			for n := range most + 1 {
				if !checkDecode(t, slices.Concat(b, number(n), bytes.Repeat(whole, n))) {
					t.Errorf("%d of at most %d are refused", n, most)
				}
			}
			checkFault(t, b, api.ErrShort, len(b))
			checkFault(t, append(slices.Clone(b), 200), api.ErrForm, len(b))
			checkFault(t, append(slices.Clone(b), 255), api.ErrForm, len(b))
			checkFault(t, append(slices.Clone(b), 192, 1), api.ErrForm, len(b))
			checkFault(t, append(slices.Clone(b), 192), api.ErrShort, len(b))
			checkFault(t, slices.Concat(b, number(most), bytes.Repeat(whole, most-1)), api.ErrShort, len(b)+1+(most-1)*len(whole))
		}
	}
}

// P11.2: what is decoded has nothing to do with the bytes any more, which are neither changed nor looked at behind their end.
func TestDecodeMemory(t *testing.T) {
	for _, m := range manifests() {
		b := encoding(m)
		room := append(slices.Clone(b), 0, 77, 200, 1)
		before := slices.Clone(room)
		got, f := media.Decode(room[:len(b)])
		if !bytes.Equal(room, before) {
			t.Fatalf("%v was changed", before)
		}
		clear(room)
		if !same(got, m) || f != (api.Fault{}) {
			t.Fatalf("Decode(%v) = %v, %v", b, got, f)
		}
		for _, list := range [][]api.Desc{got.Layers, got.Subs} {
			for _, d := range list[:cap(list)][len(list):] {
				if d != (api.Desc{}) {
					t.Fatalf("%v: more behind the end: %v", m, d)
				}
			}
			clear(list[:cap(list)])
		}
		if again, _ := media.Decode(b); !same(again, m) {
			t.Fatalf("Decode(%v) again = %v", b, again)
		}
	}
}
