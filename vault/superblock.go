package vault

import (
	"cmp"
	"slices"

	"entrepot/api"
	"entrepot/crc"
	"entrepot/device"
)

// superblock is one half of its sector: its sum, its generation, the number of sectors of the device, a mark, and zeros.
type superblock [api.SectorSize / 2]byte

// Where in a superblock the things are, the sum at the beginning.
const (
	genAt  = 4
	sizeAt = 8
	markAt = 12
)

const mark = 7

// newSuperblock returns the superblock of a generation on a device of n sectors.
func newSuperblock(gen, n int) superblock {
	var s superblock
	copy(s[genAt:], number(uint32(gen)))
	copy(s[sizeAt:], number(uint32(n)))
	s[markAt] = mark
	copy(s[:genAt], number(crc.Sum(s[genAt:])))
	return s
}

// number returns the bytes of n, the highest one first.
func number(n uint32) []byte {
	return []byte{byte(n >> 24), byte(n >> 16), byte(n >> 8), byte(n)}
}

// gen returns what is in the place of the generation.
func (s superblock) gen() int {
	gen := 0
	for _, b := range s[genAt:sizeAt] {
		gen = gen<<8 | int(b)
	}
	return gen
}

// right reports whether the superblock is one of some generation, on a device of n sectors.
func (s superblock) right(n int) bool {
	gen := s.gen()
	return gen >= firstGen && gen <= api.MaxGen && s == newSuperblock(gen, n)
}

// claim is which generation counts as far as one sector tells: none if its superblock is not right.
type claim struct {
	gen   int
	right bool
}

// claimOf returns the claim of what a sector contains, on a device of n sectors.
func claimOf(b []byte, n int) claim {
	var one, other superblock
	copy(other[:], b[copy(one[:], b):])
	// A torn write leaves halves that differ, or a sector that is the old or the new one.
	if one != other || !one.right(n) {
		return claim{}
	}
	return claim{gen: one.gen(), right: true}
}

// compare orders claims by generations; one that is not right has the generation 0, and is less than all that are.
func (c claim) compare(other claim) int {
	return cmp.Compare(c.gen, other.gen)
}

// counting returns the generation that counts on a device.
func counting(d *device.Device) (int, api.Errno) {
	var claims []claim
	for i := range superblocks {
		b, err := d.Read(i)
		if err != api.OK {
			return 0, err
		}
		claims = append(claims, claimOf(b, d.Size()))
	}
	top := slices.MaxFunc(claims, claim.compare)
	if !top.right {
		return 0, api.ErrBroken
	}
	return top.gen, api.OK
}

// writeSuperblock writes the superblock of a generation, as a loose write.
func writeSuperblock(d *device.Device, gen int) api.Errno {
	s := newSuperblock(gen, d.Size())
	return d.Write(gen%superblocks, slices.Concat(s[:], s[:]))
}
