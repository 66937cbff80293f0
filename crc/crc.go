// Package crc is layer 1: checksums of 32 bits, by which every short damage of bytes is detected.
package crc

import (
	"bytes"

	"entrepot/api"
)

const (
	polynomial = 0xEDB88320
	maxZeros   = 1 << 30
	sumSize    = 4
)

// Sum returns the sum of b.
func Sum(b []byte) uint32 {
	return More(0, b)
}

// More returns the sum of all bytes together, if sum is the sum of those before b.
func More(sum uint32, b []byte) uint32 {
	return ^passBytes(^sum, b)
}

// Join returns the sum of all bytes together, if a is the sum of the first ones and b that of the n others after them.
func Join(a, b uint32, n int) (uint32, api.Errno) {
	if n < 0 || n > maxZeros {
		return 0, api.ErrRange
	}
	// The inversions at the beginning and at the end of both sums cancel each other out.
	return passZeros(a, n) ^ b, api.OK
}

// Seal returns b, followed by the bytes of its sum.
func Seal(b []byte) []byte {
	sum := sumBytes(b)
	sealed := make([]byte, 0, len(b)+sumSize)
	return append(append(sealed, b...), sum[:]...)
}

// Open returns the bytes that were sealed.
func Open(b []byte) ([]byte, api.Errno) {
	if len(b) < sumSize {
		return nil, api.ErrShort
	}
	end := len(b) - sumSize
	if sumBytes(b[:end]) != [sumSize]byte(b[end:]) {
		return nil, api.ErrForm
	}
	return bytes.Clone(b[:end]), api.OK
}

// sumBytes returns the bytes of the sum of b, the lowest one first.
func sumBytes(b []byte) [sumSize]byte {
	sum := Sum(b)
	return [sumSize]byte{byte(sum), byte(sum >> 8), byte(sum >> 16), byte(sum >> 24)}
}

// fold passes bytes in order through what is kept from one to the next.
func fold[R any](register R, b []byte, pass func(R, byte) R) R {
	for _, x := range b {
		register = pass(register, x)
	}
	return register
}

// passBytes returns the register after all bytes of b were passed through it.
func passBytes(register uint32, b []byte) uint32 {
	table := func() (t [256]uint32) {
		// Passing is linear, so the eight bytes of a single bit make up all others; the lower the bit, the more often it was shifted since it fell out.
		r := uint32(1)
		for bit := len(t) / 2; bit > 0; bit /= 2 {
			r = shift(r)
			for i := 0; i < len(t); i += 2 * bit {
				t[i+bit] = t[i] ^ r
			}
		}
		return t
	}()
	return fold(register, b, func(r uint32, x byte) uint32 {
		return r>>8 ^ table[byte(r)^x]
	})
}

// shift moves the register on by one bit.
func shift(register uint32) uint32 {
	if register&1 == 1 {
		return register>>1 ^ polynomial
	}
	return register >> 1
}
