package sha

import "entrepot/api"

// Hash is bytes that are written piece by piece. New makes it.
type Hash struct {
	// A hash that New did not make, a copied one too, does not know itself.
	self *Hash
	stream
}

// New returns a hash of no bytes.
func New() *Hash {
	h := &Hash{stream: begin()}
	h.self = h
	return h
}

// Write appends b to what was written before.
func (h *Hash) Write(b []byte) api.Errno {
	if !h.valid() {
		return api.ErrNil
	}
	h.write(b)
	return api.OK
}

// Len returns the number of bytes written.
func (h *Hash) Len() int {
	if !h.valid() {
		return 0
	}
	return h.length
}

// Sum returns the digest of everything written.
func (h *Hash) Sum() (api.ID, api.Errno) {
	if !h.valid() {
		return api.ID{}, api.ErrNil
	}
	return h.digest(), api.OK
}

// valid reports whether New made the hash.
func (h *Hash) valid() bool {
	return h != nil && h.self == h
}

// stream is what is kept of bytes while more of them come: what their whole blocks made, and those behind these.
type stream struct {
	words  words
	rest   [blockSize]byte
	length int
}

// begin returns a stream of no bytes.
func begin() stream {
	return stream{words: first}
}

// write passes all blocks that b makes whole, and keeps the bytes behind them.
func (s *stream) write(b []byte) {
	held := s.length % blockSize
	s.length += len(b)
	if held > 0 {
		n := copy(s.rest[held:], b)
		if held+n < blockSize {
			return
		}
		s.words.pass(s.rest[:])
		b = b[n:]
	}
	for len(b) >= blockSize {
		s.words.pass(b[:blockSize])
		b = b[blockSize:]
	}
	copy(s.rest[:], b)
}

// digest returns the digest of the bytes so far; the stream can go on.
func (s *stream) digest() api.ID {
	ended := s.words
	var tail [2 * blockSize]byte
	n := copy(tail[:], s.rest[:s.length%blockSize])
	tail[n] = 128
	end := blockSize
	if n+1+lengthSize > blockSize {
		end = 2 * blockSize
	}
	bits := uint64(s.length) * 8
	for i := range lengthSize {
		tail[end-1-i] = byte(bits >> (8 * i))
	}
	for at := 0; at < end; at += blockSize {
		ended.pass(tail[at : at+blockSize])
	}
	return ended.id()
}
