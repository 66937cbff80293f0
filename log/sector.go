package log

import (
	"iter"
	"slices"

	"entrepot/api"
	"entrepot/crc"
)

// sector is what a sector contains: its sum, the generation and the index to which it belongs, its kind, and a part of a record.
type sector [api.SectorSize]byte

// Where in a sector the things are, the sum at the beginning.
const (
	genAt   = 4
	indexAt = 8
	kindAt  = 12
	sizeAt  = 13
	partAt  = 14
	markAt  = partAt + api.LogPart
)

// mark is the last byte of a sector. It is not 0, so a torn sector over zeros lacks it.
const mark = 165

// kind says where in its record a part is.
type kind byte

const (
	only kind = 1 + iota
	first
	middle
	last
)

// kindOf returns the kind of the part i of n.
func kindOf(i, n int) kind {
	switch {
	case n == 1:
		return only
	case i == 0:
		return first
	case i == n-1:
		return last
	}
	return middle
}

// begins reports whether a part of the kind is the first one of a record.
func (k kind) begins() bool {
	return k == only || k == first
}

// ends reports whether a part of the kind is the last one of a record.
func (k kind) ends() bool {
	return k == only || k == last
}

// allows reports whether there is such a kind, and a part of it may have so many bytes.
func (k kind) allows(size int) bool {
	switch k {
	case only:
		return size <= api.LogPart
	case first, middle:
		return size == api.LogPart
	case last:
		return size >= 1 && size <= api.LogPart
	}
	return false
}

// parts returns the parts of a record, of which there is one even if it has no bytes.
func parts(rec []byte) iter.Seq[[]byte] {
	if len(rec) == 0 {
		return slices.Values([][]byte{nil})
	}
	return slices.Chunk(rec, api.LogPart)
}

// newSector returns the sector of a part.
func newSector(gen, index int, k kind, part []byte) sector {
	var s sector
	copy(s[genAt:], number(uint32(gen)))
	copy(s[indexAt:], number(uint32(index)))
	s[kindAt] = byte(k)
	s[sizeAt] = byte(len(part))
	copy(s[partAt:markAt], part)
	s[markAt] = mark
	copy(s[:genAt], number(crc.Sum(s[genAt:])))
	return s
}

// number returns the bytes of n, the highest one first.
func number(n uint32) []byte {
	return []byte{byte(n >> 24), byte(n >> 16), byte(n >> 8), byte(n)}
}

// valid reports whether the sector is one of a log, at an index, under a generation.
func (s *sector) valid(gen, index int) bool {
	// The size is looked at first: there is no part of a wrong one.
	return s.kind().allows(s.size()) && *s == newSector(gen, index, s.kind(), s.part())
}

func (s *sector) kind() kind {
	return kind(s[kindAt])
}

func (s *sector) size() int {
	return int(s[sizeAt])
}

// part returns the part of a record that the sector has, if its size is one that a part may have.
func (s *sector) part() []byte {
	return s[partAt : partAt+s.size()]
}
