package strict

import (
	"entrepot/api"
	"entrepot/media"
	"entrepot/name"
	"entrepot/sha"
)

// exam is the examination of a manifest at a width: of the manifest itself, then thing by thing, then of its bytes.
type exam struct {
	manifest api.Manifest
	width    int
	encoding api.Errno // the error of the manifest's encoding
	at       int       // the number of what is examined
	thing    api.Desc  // the thing that is examined, if one is
	earlier  map[mark]api.Desc
}

// mark is by what an earlier thing is found: its digest, or its platform. An empty platform is no mark: it would be the one of the digest of noughts.
type mark struct {
	id       api.ID
	platform string
}

// begin returns the examination of a manifest.
func begin(m api.Manifest, width int) *exam {
	_, err := media.Encode(m)
	return &exam{manifest: m, width: width, encoding: err, earlier: map[mark]api.Desc{}}
}

// steps yields the conditions of what is examined, one thing after the other.
func (x *exam) steps(yield func([]condition) bool) {
	if !yield(ofManifest()) {
		return
	}
	for i, d := range media.Descs(x.manifest) {
		x.at, x.thing = i+1, d
		if !yield(ofThing()) {
			return
		}
		x.remember()
	}
	x.at = 0
	yield(ofBytes())
}

// remember puts the thing to the earlier ones.
func (x *exam) remember() {
	x.earlier[mark{id: x.thing.ID}] = x.thing
	if x.thing.Platform != "" {
		x.earlier[mark{platform: x.thing.Platform}] = x.thing
	}
}

// noWidth asks by the digest of noughts, which has every width that there is.
func (x *exam) noWidth() bool {
	return !sha.Has(api.ID{}, x.width)
}

// notOfItsKind leaves it to the encoding, of which this is the first error, to tell what a kind has.
func (x *exam) notOfItsKind() bool {
	return x.encoding == api.ErrMedia
}

func (x *exam) longTitle() bool {
	return name.Title(x.manifest.Title).Err == api.ErrLong
}

func (x *exam) wrongTitle() bool {
	return name.Title(x.manifest.Title).Err == api.ErrName
}

func (x *exam) manyThings() bool {
	return len(x.manifest.Layers) > api.MaxLayers || len(x.manifest.Subs) > api.MaxSubs
}

func (x *exam) emptyIndex() bool {
	return x.isIndex() && len(x.manifest.Subs) == 0
}

// longBytes is asked when there are not too many things any more, so that only the bytes can be too many.
func (x *exam) longBytes() bool {
	return x.encoding == api.ErrLong
}

// isIndex reports whether each thing is a Sub. Otherwise the first one is the Config, and all others are Layers.
func (x *exam) isIndex() bool {
	return x.manifest.Kind == api.MediaIndex
}

func (x *exam) wrongMedia() bool {
	got := x.thing.Media
	switch {
	case x.isIndex():
		return got != api.MediaImage && got != api.MediaIndex
	case x.at == 1:
		return got != api.MediaConfig
	}
	return got != api.MediaLayer
}

func (x *exam) wrongDigest() bool {
	return !sha.Has(x.thing.ID, x.width)
}

func (x *exam) wrongSize() bool {
	return !possible(x.thing.Size)
}

// possible reports whether a blob can have so many bytes.
func possible(size int) bool {
	return size >= 0 && size <= api.MaxBlob
}

func (x *exam) wrongPlatform() bool {
	if x.thing.Media == api.MediaImage {
		return name.Platform(x.thing.Platform).Err != api.OK
	}
	return x.thing.Platform != ""
}

func (x *exam) doubled() bool {
	return x.doubledDigest() || x.thing.Platform != "" && x.found(mark{platform: x.thing.Platform})
}

// doubledDigest need look at one earlier thing with the digest only: if there are several, they have the same Media and Size.
func (x *exam) doubledDigest() bool {
	d, is := x.earlier[mark{id: x.thing.ID}]
	return is && (x.isIndex() || d.Media != x.thing.Media || d.Size != x.thing.Size)
}

func (x *exam) found(k mark) bool {
	_, is := x.earlier[k]
	return is
}
