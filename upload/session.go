package upload

import (
	"bytes"
	"cmp"
	"iter"
	"slices"
	"strings"

	"entrepot/api"
)

// session is an upload that is not finished: what arrived stays in its pieces until somebody asks for it.
type session struct {
	n      int
	repo   string
	pieces [][]byte
	length int // the bytes of all pieces
}

// newSession returns what is kept of s.
func newSession(s api.Session) *session {
	kept := &session{n: s.N, repo: strings.Clone(s.Repo)}
	kept.add(s.B)
	return kept
}

// compare orders a session by its number.
func (s *session) compare(n int) int {
	return cmp.Compare(s.n, n)
}

// add puts a piece behind the others. An empty one is not kept: any number of them may come.
func (s *session) add(piece []byte) {
	if len(piece) > 0 {
		s.pieces = append(s.pieces, bytes.Clone(piece))
		s.length += len(piece)
	}
}

// tell returns the session as it is told to others.
func (s *session) tell() api.Session {
	return api.Session{N: s.n, Repo: s.repo, B: s.join()}
}

// join returns the bytes of all pieces.
func (s *session) join() []byte {
	return slices.AppendSeq(make([]byte, 0, s.length), flat(slices.Values(s.pieces)))
}

// flat yields the bytes of pieces, one piece after the other.
func flat(pieces iter.Seq[[]byte]) iter.Seq[byte] {
	return func(yield func(byte) bool) {
		for piece := range pieces {
			for _, x := range piece {
				if !yield(x) {
					return
				}
			}
		}
	}
}
