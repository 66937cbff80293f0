package sha

import (
	"math/bits"

	"entrepot/api"
)

const (
	blockSize  = 64
	lengthSize = 8
	wordSize   = 4
)

// words is the eight words a to h.
type words [8]uint32

var first = words{0x6a09e667, 0xbb67ae85, 0x3c6ef372, 0xa54ff53a, 0x510e527f, 0x9b05688c, 0x1f83d9ab, 0x5be0cd19}

// added is the words k(0) to k(63).
var added = [64]uint32{
	0x428a2f98, 0x71374491, 0xb5c0fbcf, 0xe9b5dba5, 0x3956c25b, 0x59f111f1, 0x923f82a4, 0xab1c5ed5,
	0xd807aa98, 0x12835b01, 0x243185be, 0x550c7dc3, 0x72be5d74, 0x80deb1fe, 0x9bdc06a7, 0xc19bf174,
	0xe49b69c1, 0xefbe4786, 0x0fc19dc6, 0x240ca1cc, 0x2de92c6f, 0x4a7484aa, 0x5cb0a9dc, 0x76f988da,
	0x983e5152, 0xa831c66d, 0xb00327c8, 0xbf597fc7, 0xc6e00bf3, 0xd5a79147, 0x06ca6351, 0x14292967,
	0x27b70a85, 0x2e1b2138, 0x4d2c6dfc, 0x53380d13, 0x650a7354, 0x766a0abb, 0x81c2c92e, 0x92722c85,
	0xa2bfe8a1, 0xa81a664b, 0xc24b8b70, 0xc76c51a3, 0xd192e819, 0xd6990624, 0xf40e3585, 0x106aa070,
	0x19a4c116, 0x1e376c08, 0x2748774c, 0x34b0bcb5, 0x391c0cb3, 0x4ed8aa4a, 0x5b9cca4f, 0x682e6ff3,
	0x748f82ee, 0x78a5636f, 0x84c87814, 0x8cc70208, 0x90befffa, 0xa4506ceb, 0xbef9a3f7, 0xc67178f2,
}

// pass takes the words on by one block.
func (s *words) pass(block []byte) {
	before := *s
	s.mix(schedule(block))
	for i, x := range before {
		s[i] += x
	}
}

// mix turns the words 64 times. They are variables meanwhile, as that is much faster than elements are.
func (s *words) mix(w [64]uint32) {
	a, b, c, d, e, f, g, h := s[0], s[1], s[2], s[3], s[4], s[5], s[6], s[7]
	for i := range w {
		x := h + (turned(e, 6) ^ turned(e, 11) ^ turned(e, 25)) + (e&f ^ ^e&g) + added[i] + w[i]
		y := (turned(a, 2) ^ turned(a, 13) ^ turned(a, 22)) + (a&b ^ a&c ^ b&c)
		a, b, c, d, e, f, g, h = x+y, a, b, c, d+x, e, f, g
	}
	*s = words{a, b, c, d, e, f, g, h}
}

// schedule returns the words w(0) to w(63) of a block.
func schedule(block []byte) [64]uint32 {
	var w [64]uint32
	for i := range blockSize / wordSize {
		w[i] = word([wordSize]byte(block[wordSize*i:]))
	}
	for i := blockSize / wordSize; i < len(w); i++ {
		s := turned(w[i-15], 7) ^ turned(w[i-15], 18) ^ w[i-15]>>3
		t := turned(w[i-2], 17) ^ turned(w[i-2], 19) ^ w[i-2]>>10
		w[i] = w[i-16] + s + w[i-7] + t
	}
	return w
}

// word returns the word of bytes, the highest one first.
func word(b [wordSize]byte) uint32 {
	return uint32(b[0])<<24 | uint32(b[1])<<16 | uint32(b[2])<<8 | uint32(b[3])
}

// turned returns x, rotated to the right.
func turned(x uint32, n int) uint32 {
	return bits.RotateLeft32(x, -n)
}

// id returns the bytes of the words, the highest one of each first.
func (s *words) id() api.ID {
	var id api.ID
	for i, x := range s {
		for k := range wordSize {
			id[wordSize*i+k] = byte(x >> (8 * (wordSize - 1 - k)))
		}
	}
	return id
}
