package sha_test

import (
	"bytes"
	"cmp"
	"crypto/sha256"
	"encoding/hex"
	"math"
	"strings"
	"testing"

	"entrepot/api"
	"entrepot/sha"
)

// sample returns n bytes in which nothing repeats soon, the same ones each time.
func sample(n int, seed uint32) []byte {
	b := make([]byte, n)
	for i := range b {
		seed = seed*1664525 + 1013904223
		b[i] = byte(seed >> 24)
	}
	return b
}

// kinds returns bytes of one length of every kind: none set, all set, mixed ones.
func kinds(n int) [][]byte {
	return [][]byte{make([]byte, n), bytes.Repeat([]byte{0xFF}, n), sample(n, uint32(n)), sample(n, 77)}
}

// digests returns digests that differ at each place, little and much, or only in what a sign would turn.
func digests() []api.ID {
	list := []api.ID{{}, [32]byte(bytes.Repeat([]byte{0xFF}, 32)), [32]byte(bytes.Repeat([]byte{0x7F}, 32)), [32]byte(bytes.Repeat([]byte{0x80}, 32))}
	for i := range 32 {
		var one, high api.ID
		one[i], high[i] = 1, 0x80
		same := api.ID(sha256.Sum256([]byte("entrepot")))
		same[i]++
		list = append(list, one, high, same, sha256.Sum256([]byte{byte(i)}))
	}
	return list
}

// P2.1: Sum, of bytes whose digests are known.
func TestSumKnown(t *testing.T) {
	cases := []struct {
		b, want string
	}{
		{"", "e3b0c44298fc1c149afbf4c8996fb92427ae41e4649b934ca495991b7852b855"},
		{"abc", "ba7816bf8f01cfea414140de5dae2223b00361a396177a9cb410ff61f20015ad"},
		{"abcdbcdecdefdefgefghfghighijhijkijkljklmklmnlmnomnopnopq", "248d6a61d20638b8e5c026930c3e6039a33ce45964ff2167f6ecedd419db06c1"},
		{strings.Repeat("a", 1000000), "cdc76e5c9914fb9281a1c7e284d73e67f1809a48a497200e046d39ccc7112cd0"},
	}
	for _, c := range cases {
		if got := sha.Sum([]byte(c.b)); hex.EncodeToString(got[:]) != c.want {
			t.Errorf("Sum of %d bytes = %x, not %s", len(c.b), got, c.want)
		}
	}
	if sha.Sum(nil) != sha.Sum([]byte{}) {
		t.Error("nil and no bytes differ")
	}
}

// P2.1: Sum, of every length about the ends of blocks, where the number of bits no longer fits.
func TestSum(t *testing.T) {
	for n := range 400 {
		for _, b := range kinds(n) {
			if got, want := sha.Sum(b), api.ID(sha256.Sum256(b)); got != want {
				t.Fatalf("Sum(%x) = %x, not %x", b, got, want)
			}
		}
	}
	for x := range 256 {
		b := []byte{byte(x)}
		if got, want := sha.Sum(b), api.ID(sha256.Sum256(b)); got != want {
			t.Errorf("Sum(%x) = %x, not %x", b, got, want)
		}
	}
	for _, n := range []int{4096, 8191, 8192, 1<<16 - 9, 1<<16 + 55, 1<<16 + 56, 1 << 21} {
		b := sample(n, 5)
		if got, want := sha.Sum(b), api.ID(sha256.Sum256(b)); got != want {
			t.Errorf("Sum of %d bytes = %x, not %x", n, got, want)
		}
	}
}

// P2.1: the digest changes with each bit.
func TestSumOfEachBit(t *testing.T) {
	for _, n := range []int{1, 55, 56, 63, 64, 65, 128} {
		b := sample(n, 6)
		seen := map[api.ID]bool{sha.Sum(b): true}
		for i := range 8 * n {
			b[i/8] ^= 1 << (i % 8)
			seen[sha.Sum(b)] = true
			b[i/8] ^= 1 << (i % 8)
		}
		if len(seen) != 8*n+1 {
			t.Errorf("%d bytes: %d digests", n, len(seen))
		}
	}
}

// P2.1: Cut, Of and Has, at each width.
func TestWidths(t *testing.T) {
	for _, b := range kinds(70) {
		whole := api.ID(sha256.Sum256(b))
		for width := 1; width <= 32; width++ {
			var want api.ID
			copy(want[:], whole[:width])
			if got, err := sha.Cut(whole, width); got != want || err != api.OK {
				t.Errorf("Cut(%x, %d) = %x, %v", whole, width, got, err)
			}
			if got, err := sha.Of(b, width); got != want || err != api.OK {
				t.Errorf("Of(%x, %d) = %x, %v", b, width, got, err)
			}
			if !sha.Has(want, width) {
				t.Errorf("Has(%x, %d) is false", want, width)
			}
		}
	}
	if got, err := sha.Of([]byte("abc"), 2); got != (api.ID{0xBA, 0x78}) || err != api.OK {
		t.Errorf("Of(abc, 2) = %x, %v", got, err)
	}
	if got, err := sha.Of(nil, 1); got != (api.ID{0xE3}) || err != api.OK {
		t.Errorf("Of(none, 1) = %x, %v", got, err)
	}
}

// P2.1: Has asks for bytes 0 behind the width, and for nothing before it.
func TestHas(t *testing.T) {
	abc := sha.Sum([]byte("abc"))
	if sha.Has(abc, 31) || !sha.Has(abc, 32) {
		t.Error("the width of the digest of abc")
	}
	for i := range 32 {
		var id api.ID
		id[i] = 1
		for width := 1; width <= 32; width++ {
			if got := sha.Has(id, width); got != (i < width) {
				t.Errorf("Has(%x, %d) = %v", id, width, got)
			}
			if !sha.Has(api.ID{}, width) {
				t.Errorf("Has(0, %d) is false", width)
			}
		}
	}
}

// P2.1: widths that are none.
func TestNoWidth(t *testing.T) {
	for _, width := range []int{0, 33, -1, -32, 64, 255, 256, 256 + 32, 1 << 32, 1<<32 + 5, math.MinInt, math.MaxInt} {
		for _, id := range []api.ID{{}, {1}, sha.Sum([]byte("abc"))} {
			if got, err := sha.Cut(id, width); got != (api.ID{}) || err != api.ErrRange {
				t.Errorf("Cut(%x, %d) = %x, %v", id, width, got, err)
			}
			if sha.Has(id, width) {
				t.Errorf("Has(%x, %d) is true", id, width)
			}
		}
		for _, b := range [][]byte{nil, []byte("abc")} {
			if got, err := sha.Of(b, width); got != (api.ID{}) || err != api.ErrRange {
				t.Errorf("Of(%s, %d) = %x, %v", b, width, got, err)
			}
		}
	}
}

// P2.2: Text.
func TestText(t *testing.T) {
	for _, id := range digests() {
		if got, want := sha.Text(id), hex.EncodeToString(id[:]); got != want {
			t.Errorf("Text(%x) = %s", id, got)
		}
	}
	for x := range 256 {
		id := api.ID{31: byte(x)}
		if got, want := sha.Text(id), hex.EncodeToString(id[:]); got != want {
			t.Errorf("Text(%x) = %s", id, got)
		}
	}
}

// P2.2: Read, of texts.
func TestRead(t *testing.T) {
	for _, id := range digests() {
		if got, err := sha.Read(hex.EncodeToString(id[:])); got != id || err != api.OK {
			t.Errorf("Read(%x) = %x, %v", id, got, err)
		}
	}
	for x := range 256 {
		for _, id := range []api.ID{{byte(x)}, {31: byte(x)}} {
			if got, err := sha.Read(hex.EncodeToString(id[:])); got != id || err != api.OK {
				t.Errorf("Read(%x) = %x, %v", id, got, err)
			}
		}
	}
}

// P2.2: Read, of what is no text.
func TestReadWrong(t *testing.T) {
	good := hex.EncodeToString(bytes.Repeat([]byte{0x1F, 0xA9}, 16))
	wrong := []string{
		"", "ba78", strings.Repeat("A", 64), strings.Repeat("F", 64), strings.Repeat("g", 64), strings.Repeat(" ", 64),
		good[1:], good[2:], good[:62], good + "0", good + "00", good + good, " " + good, good + "\n", " " + good[1:], good[:63] + " ",
		"0x" + good, "0x" + good[2:], strings.ToUpper(good), strings.Repeat("\u00E9", 32), strings.Repeat("\u0660", 32), strings.Repeat("\x00", 64), strings.Repeat("\xFF", 64),
		strings.Repeat("\u0660", 64), strings.Repeat("0", 1<<16), strings.Repeat("0", 63), strings.Repeat("0", 65),
	}
	for _, s := range wrong {
		if got, err := sha.Read(s); got != (api.ID{}) || err != api.ErrForm {
			t.Errorf("Read(%q) = %x, %v", s, got, err)
		}
	}
	for at := range good {
		for x := range 256 {
			isDigit := strings.ContainsRune("0123456789abcdef", rune(x))
			s := good[:at] + string([]byte{byte(x)}) + good[at+1:]
			got, err := sha.Read(s)
			if isDigit && (err != api.OK || hex.EncodeToString(got[:]) != s) || !isDigit && (err != api.ErrForm || got != (api.ID{})) {
				t.Fatalf("Read(%q) = %x, %v", s, got, err)
			}
		}
	}
}

// P2.2: Compare.
func TestCompare(t *testing.T) {
	list := digests()
	for _, a := range list {
		for _, b := range list {
			if got, want := sha.Compare(a, b), bytes.Compare(a[:], b[:]); got != want {
				t.Errorf("Compare(%x, %x) = %d, not %d", a, b, got, want)
			}
		}
	}
	cases := []struct {
		a, b api.ID
		want int
	}{
		{api.ID{1}, api.ID{2}, -1},
		{api.ID{2}, api.ID{1, 9}, 1},
		{api.ID{1, 9}, api.ID{2}, -1},
		{api.ID{0x7F}, api.ID{0x80}, -1},
		{api.ID{0xFF}, api.ID{}, 1},
		{api.ID{31: 1}, api.ID{31: 2}, -1},
		{api.ID{31: 2}, api.ID{31: 1}, 1},
		{api.ID{30: 1}, api.ID{31: 0xFF}, 1},
		{api.ID{}, api.ID{}, 0},
		{api.ID{31: 0xFF}, api.ID{31: 0xFF}, 0},
	}
	for _, c := range cases {
		if got := sha.Compare(c.a, c.b); got != c.want {
			t.Errorf("Compare(%x, %x) = %d, not %d", c.a, c.b, got, c.want)
		}
	}
}

// P2.4: Read returns a digest from its text, and texts compare as digests do.
func TestTextsAsDigests(t *testing.T) {
	list := digests()
	for _, a := range list {
		if got, err := sha.Read(sha.Text(a)); got != a || err != api.OK {
			t.Errorf("Read(Text(%x)) = %x, %v", a, got, err)
		}
		for _, b := range list {
			if got, want := cmp.Compare(sha.Text(a), sha.Text(b)), sha.Compare(a, b); got != want {
				t.Errorf("the texts of %x and %x compare as %d, not %d", a, b, got, want)
			}
		}
	}
}

// P2.4: a digest that is truncated twice is truncated to the lesser width.
func TestCutTwice(t *testing.T) {
	id := sha.Sum([]byte("entrepot"))
	for first := 1; first <= 32; first++ {
		for second := 1; second <= 32; second++ {
			once, err := sha.Cut(id, first)
			twice, err2 := sha.Cut(once, second)
			want, err3 := sha.Cut(id, min(first, second))
			if twice != want || err != api.OK || err2 != api.OK || err3 != api.OK {
				t.Errorf("cut to %d, then to %d: %x, not %x", first, second, twice, want)
			}
			if !sha.Has(twice, first) || !sha.Has(twice, second) || sha.Has(once, second) != (once == twice) {
				t.Errorf("cut to %d, then to %d: its widths", first, second)
			}
		}
	}
}
