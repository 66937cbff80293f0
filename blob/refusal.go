package blob

import (
	"bytes"

	"entrepot/api"
	"entrepot/sha"
)

// refusal returns why b cannot be put under id, if that is so.
func (s *Store) refusal(id api.ID, b []byte) api.Errno {
	return first(
		func() api.Errno { return unless(s.valid(), api.ErrNil) },
		func() api.Errno { return unless(len(b) <= api.MaxBlob, api.ErrLong) },
		func() api.Errno { return unless(s.names(id, b), api.ErrDigest) },
		func() api.Errno { return unless(!s.has(id) || bytes.Equal(s.blobs[id].b, b), api.ErrConflict) },
		func() api.Errno { return unless(s.has(id) || len(b) <= s.room-s.used, api.ErrFull) },
	)
}

// first returns the first error of the checks. What comes behind it is not asked: it may hold only where no error is.
func first(checks ...func() api.Errno) api.Errno {
	for _, check := range checks {
		if err := check(); err != api.OK {
			return err
		}
	}
	return api.OK
}

// unless returns err if something does not hold.
func unless(holds bool, err api.Errno) api.Errno {
	if holds {
		return api.OK
	}
	return err
}

// names reports whether id is the digest of b, of the width of the store.
func (s *Store) names(id api.ID, b []byte) bool {
	digest, err := sha.Of(b, s.width)
	return err == api.OK && digest == id
}
