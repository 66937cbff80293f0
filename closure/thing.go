package closure

import (
	"entrepot/api"
	"entrepot/blob"
	"entrepot/media"
)

// thing is what a walk comes to: a description, and how deep that is. Of the first thing, at the depth 1, only the digest is known.
type thing struct {
	api.Desc
	depth int
	below []api.Desc
}

// ending is what a walk is ended with: an error, and the digest of the thing that has it.
type ending struct {
	id  api.ID
	err api.Errno
}

// first returns the thing with which a walk begins.
func first(id api.ID) *thing {
	return &thing{Desc: api.Desc{ID: id}, depth: 1}
}

// each yields the thing, then everything below it. What is below is asked for only after the thing was yielded: who gets it decides that.
func (t *thing) each(yield func(*thing) bool) {
	if !yield(t) {
		return
	}
	for _, d := range t.below {
		next := &thing{Desc: d, depth: t.depth + 1}
		for u := range next.each {
			if !yield(u) {
				return
			}
		}
	}
}

// examine ends the walk with the first error of the thing; if it has none, what is below it is known.
func (t *thing) examine(s *blob.Store) {
	size, stored := s.Size(t.ID)
	t.require(stored, api.ErrBlob)
	t.require(t.isFirst() || size == t.Size, api.ErrSize)
	if t.isEnd() {
		return
	}
	t.require(t.isManifest(), api.ErrMedia)
	t.require(t.depth <= api.MaxDepth, api.ErrDepth)
	m, is := manifest(s, t.ID)
	t.require(is, api.ErrForm)
	t.require(t.isFirst() || m.Kind == t.Media, api.ErrMedia)
	t.below = media.Descs(m)
}

// require ends the walk with an error of the thing, unless something holds.
func (t *thing) require(holds bool, err api.Errno) {
	if !holds {
		panic(ending{t.ID, err})
	}
}

func (t *thing) isFirst() bool {
	return t.depth == 1
}

// isEnd reports whether nothing is below the thing, whatever its blob looks like.
func (t *thing) isEnd() bool {
	return t.Media == api.MediaConfig || t.Media == api.MediaLayer
}

// isManifest reports whether the thing is walked as a manifest.
func (t *thing) isManifest() bool {
	return t.isFirst() || t.Media == api.MediaImage || t.Media == api.MediaIndex
}

// levels returns how many levels below the thing may be walked.
func (t *thing) levels() int {
	if !t.isManifest() {
		return 0
	}
	return api.MaxDepth + 1 - t.depth
}
