package crc_test

import (
	"bytes"
	"hash/crc32"
	"math"
	"slices"
	"testing"

	"entrepot/api"
	"entrepot/crc"
)

// pass is the definition of the chapter, bit by bit.
func pass(register uint32, b []byte) uint32 {
	for _, x := range b {
		register ^= uint32(x)
		for range 8 {
			out := register & 1
			register >>= 1
			if out == 1 {
				register ^= 0xEDB88320
			}
		}
	}
	return register
}

// sample returns n bytes in which nothing repeats soon, the same ones each time.
func sample(n int, seed uint32) []byte {
	b := make([]byte, n)
	for i := range b {
		seed = seed*1664525 + 1013904223
		b[i] = byte(seed >> 24)
	}
	return b
}

// numbers returns registers and sums of every kind: with no bit, with one, with all but one, with all, and mixed ones.
func numbers() []uint32 {
	list := []uint32{0, math.MaxUint32, 0xEDB88320, 0xCBF43926}
	for i := range 32 {
		list = append(list, 1<<i, ^uint32(1<<i), uint32(i+1)*2654435761)
	}
	return list
}

// P1.1: Sum.
func TestSum(t *testing.T) {
	if got := crc.Sum([]byte("123456789")); got != 0xCBF43926 {
		t.Errorf("Sum(123456789) = %X", got)
	}
	if crc.Sum(nil) != 0 || crc.Sum([]byte{}) != 0 {
		t.Error("the sum of no bytes is not 0")
	}
	for x := range 256 {
		b := []byte{byte(x)}
		if got, want := crc.Sum(b), ^pass(math.MaxUint32, b); got != want {
			t.Errorf("Sum(%02X) = %X, not %X", x, got, want)
		}
	}
	for n := range 300 {
		for _, b := range [][]byte{sample(n, uint32(n)), make([]byte, n), bytes.Repeat([]byte{0xFF}, n)} {
			got := crc.Sum(b)
			if want := ^pass(math.MaxUint32, b); got != want || got != crc32.ChecksumIEEE(b) {
				t.Fatalf("Sum(% X) = %X, not %X", b, got, want)
			}
		}
	}
	long := sample(1<<20+3, 7)
	if got, want := crc.Sum(long), crc32.ChecksumIEEE(long); got != want {
		t.Errorf("the sum of a long one is %X, not %X", got, want)
	}
}

// P1.1: More.
func TestMore(t *testing.T) {
	if got := crc.More(crc.Sum([]byte("1234")), []byte("56789")); got != 0xCBF43926 {
		t.Errorf("More(Sum(1234), 56789) = %X", got)
	}
	b := sample(200, 1)
	whole := crc.Sum(b)
	for i := range len(b) + 1 {
		if got := crc.More(crc.Sum(b[:i]), b[i:]); got != whole {
			t.Errorf("More at %d = %X, not %X", i, got, whole)
		}
	}
	sum := uint32(0)
	for i := range b {
		sum = crc.More(sum, b[i:i+1])
	}
	if sum != whole {
		t.Errorf("byte by byte the sum is %X, not %X", sum, whole)
	}
	for _, sum := range numbers() {
		if got := crc.More(sum, nil); got != sum {
			t.Errorf("More(%X, none) = %X", sum, got)
		}
		if got, want := crc.More(sum, b), ^pass(^sum, b); got != want {
			t.Errorf("More(%X, b) = %X, not %X", sum, got, want)
		}
	}
}

// P1.1: Join, of any registers.
func TestJoin(t *testing.T) {
	if got, err := crc.Join(crc.Sum([]byte("1234")), crc.Sum([]byte("56789")), 5); got != 0xCBF43926 || err != api.OK {
		t.Errorf("Join(Sum(1234), Sum(56789), 5) = %X, %v", got, err)
	}
	list := numbers()
	for n := range 70 {
		zeros := make([]byte, n)
		for i, a := range list {
			b := list[len(list)-1-i]
			if got, err := crc.Join(a, b, n); got != pass(a, zeros)^b || err != api.OK {
				t.Fatalf("Join(%X, %X, %d) = %X, %v", a, b, n, got, err)
			}
		}
	}
}

// P1.1: Join, up to its greatest number.
func TestJoinOfMany(t *testing.T) {
	for _, n := range []int{255, 256, 257, 1<<16 - 1, 1 << 16, 1<<20 - 1, 1 << 20, 1<<20 + 1} {
		zeros := make([]byte, n)
		for _, a := range []uint32{1, 1 << 31, 0xCBF43926, math.MaxUint32} {
			if got, err := crc.Join(a, 5, n); got != pass(a, zeros)^5 || err != api.OK {
				t.Errorf("Join(%X, 5, %d) = %X, %v", a, n, got, err)
			}
		}
	}
	for n := 1 << 21; n <= 1<<30; n *= 2 {
		for _, a := range []uint32{1, 1 << 31, 0xCBF43926, math.MaxUint32} {
			half, _ := crc.Join(a, 0, n/2)
			want, _ := crc.Join(half, 9, n/2)
			if got, err := crc.Join(a, 9, n); got != want || err != api.OK {
				t.Errorf("Join(%X, 9, %d) = %X, %v, not %X", a, n, got, err, want)
			}
			almost, err := crc.Join(a, 0, n-1)
			if got := pass(almost, []byte{0}) ^ 9; got != want || err != api.OK {
				t.Errorf("Join(%X, 0, %d) = %X, %v", a, n-1, almost, err)
			}
		}
	}
}

// P1.1: Join, of a number that is out of range.
func TestJoinOutOfRange(t *testing.T) {
	for _, n := range []int{-1, -2, -1 << 30, math.MinInt, 1<<30 + 1, 1 << 31, 1 << 32, 1<<32 + 5, math.MaxInt} {
		if got, err := crc.Join(0xCBF43926, 0x12345678, n); got != 0 || err != api.ErrRange {
			t.Errorf("Join(a, b, %d) = %X, %v", n, got, err)
		}
	}
	if got, err := crc.Join(0, 0, -1); got != 0 || err != api.ErrRange {
		t.Errorf("Join(0, 0, -1) = %X, %v", got, err)
	}
}

// P1.2: Seal.
func TestSeal(t *testing.T) {
	if got := crc.Seal([]byte("123456789")); string(got) != "123456789\x26\x39\xF4\xCB" {
		t.Errorf("Seal(123456789) = % X", got)
	}
	if got := crc.Seal(nil); string(got) != "\x00\x00\x00\x00" {
		t.Errorf("Seal(none) = % X", got)
	}
	for n := range 100 {
		b := sample(n, 3)
		sum := ^pass(math.MaxUint32, b)
		want := append(slices.Clone(b), byte(sum), byte(sum>>8), byte(sum>>16), byte(sum>>24))
		if got := crc.Seal(b); !bytes.Equal(got, want) {
			t.Errorf("Seal(% X) = % X, not % X", b, got, want)
		}
	}
}

// P1.2: Open.
func TestOpen(t *testing.T) {
	for n := range 100 {
		b := sample(n, 4)
		if got, err := crc.Open(crc.Seal(b)); !bytes.Equal(got, b) || err != api.OK {
			t.Errorf("Open(Seal(% X)) = % X, %v", b, got, err)
		}
	}
	twice := crc.Seal(crc.Seal([]byte("entrepot")))
	once, err := crc.Open(twice)
	if b, err2 := crc.Open(once); err != api.OK || err2 != api.OK || string(b) != "entrepot" {
		t.Errorf("sealed twice: % X, %v, %v", b, err, err2)
	}
	if got, err := crc.Open(make([]byte, 4)); len(got) != 0 || err != api.OK {
		t.Errorf("Open(00 00 00 00) = % X, %v", got, err)
	}
}

// P1.2: Open, of bytes that are not sealed.
func TestOpenWrong(t *testing.T) {
	cases := []struct {
		b    string
		want api.Errno
	}{
		{"", api.ErrShort},
		{"\x00", api.ErrShort},
		{"\x00\x00\x00", api.ErrShort},
		{"abc", api.ErrShort},
		{"\x00\x00\x00\x01", api.ErrForm},
		{"\x01\x00\x00\x00", api.ErrForm},
		{"\xFF\xFF\xFF\xFF", api.ErrForm},
		{"\x00\x00\x00\x00\x00", api.ErrForm},
		{"123456789\xCB\xF4\x39\x26", api.ErrForm},
		{"123456789\x26\x39\xF4", api.ErrForm},
		{"\x26\x39\xF4\xCB123456789", api.ErrForm},
		{"123456789", api.ErrForm},
	}
	for _, c := range cases {
		if got, err := crc.Open([]byte(c.b)); got != nil || err != c.want {
			t.Errorf("Open(% X) = % X, %v, not %v", c.b, got, err, c.want)
		}
	}
	if got, err := crc.Open(nil); got != nil || err != api.ErrShort {
		t.Errorf("Open(none) = % X, %v", got, err)
	}
}

// P1.2: what is answered is new memory, and the argument stays as it was, behind its end, too.
func TestNewMemory(t *testing.T) {
	room := []byte("123456789abcdefgh")
	sealed := crc.Seal(room[:9])
	if string(room) != "123456789abcdefgh" {
		t.Errorf("Seal changed its argument: %s", room)
	}
	copied := string(sealed)
	opened, _ := crc.Open(sealed)
	if string(sealed) != copied {
		t.Errorf("Open changed its argument: % X", sealed)
	}
	clear(sealed[:cap(sealed)])
	if string(room) != "123456789abcdefgh" || string(opened) != "123456789" {
		t.Errorf("what Seal answered is shared: %s, %s", room, opened)
	}
	whole := []byte(copied + "behind")
	opened, _ = crc.Open(whole[:13])
	clear(opened[:cap(opened)])
	if string(whole) != copied+"behind" {
		t.Errorf("what Open answered is shared: % X", whole)
	}
}

// P1.3: the sums of parts are joined to the sum of the whole.
func TestSumsOfParts(t *testing.T) {
	b := sample(60, 5)
	whole := ^pass(math.MaxUint32, b)
	for i := range len(b) + 1 {
		for j := i; j <= len(b); j++ {
			first, middle, last := crc.Sum(b[:i]), crc.Sum(b[i:j]), crc.Sum(b[j:])
			left, _ := crc.Join(first, middle, j-i)
			right, _ := crc.Join(middle, last, len(b)-j)
			fromLeft, _ := crc.Join(left, last, len(b)-j)
			fromRight, _ := crc.Join(first, right, len(b)-i)
			if fromLeft != whole || fromRight != whole {
				t.Fatalf("parts at %d and %d: %X, %X, not %X", i, j, fromLeft, fromRight, whole)
			}
		}
	}
	long := sample(1<<20, 6)
	a, c := long[:1<<19+11], long[1<<19+11:]
	if got, err := crc.Join(crc.Sum(a), crc.Sum(c), len(c)); got != crc32.ChecksumIEEE(long) || err != api.OK {
		t.Errorf("parts of a long one: %X, %v", got, err)
	}
}

// P1.3: bytes that are changed within four consecutive ones are no longer sealed.
func TestShortDamage(t *testing.T) {
	for _, n := range []int{0, 1, 2, 3, 4, 5, 9, 64} {
		sealed := crc.Seal(sample(n, 8))
		for at := range len(sealed) - 3 {
			for k := range 4 {
				for x := 1; x < 256; x++ {
					checkDamage(t, sealed, at, uint32(x)<<(8*k))
				}
			}
			for i := range uint32(500) {
				checkDamage(t, sealed, at, (i+1)*2654435761)
			}
		}
	}
}

// checkDamage changes four bytes at a place by a mask that is not 0.
func checkDamage(t *testing.T, sealed []byte, at int, mask uint32) {
	t.Helper()
	damaged := flip(sealed, at, mask)
	if got, err := crc.Open(damaged); got != nil || err != api.ErrForm {
		t.Fatalf("% X, changed at %d by %08X: % X, %v", sealed, at, mask, got, err)
	}
}

func flip(sealed []byte, at int, mask uint32) []byte {
	damaged := slices.Clone(sealed)
	for k := range 4 {
		damaged[at+k] ^= byte(mask >> (8 * k))
	}
	return damaged
}

// P1.3: no change at all of four consecutive bytes is missed. What a change makes of the sum is linear in its bits, so it suffices that no combination of the 32 single bits cancels out.
func TestNoShortDamageIsMissed(t *testing.T) {
	for _, n := range []int{0, 1, 3, 4, 17, 200} {
		sealed := crc.Seal(sample(n, 9))
		for at := range len(sealed) - 3 {
			var found []uint32
			for bit := range 32 {
				found = append(found, difference(flip(sealed, at, 1<<bit)))
			}
			if r := rank(found); r != 32 {
				t.Errorf("%d bytes, changed at %d: rank %d", n, at, r)
			}
		}
	}
}

// difference returns by which bits the sum differs from the one that is sealed.
func difference(b []byte) uint32 {
	end := len(b) - 4
	sum := crc.Sum(b[:end])
	for k := range 4 {
		sum ^= uint32(b[end+k]) << (8 * k)
	}
	return sum
}

// rank returns how many of the numbers are no combination of others by exclusive or.
func rank(list []uint32) int {
	var basis []uint32
	for _, x := range list {
		for _, y := range basis {
			x = min(x, x^y)
		}
		if x != 0 {
			basis = append(basis, x)
		}
	}
	return len(basis)
}
