package strict

import "entrepot/api"

// condition is an error, and what asks whether it applies to what is examined.
type condition struct {
	err     api.Errno
	applies func(*exam) bool
}

// ofManifest returns the conditions of a manifest itself.
func ofManifest() []condition {
	return []condition{
		{api.ErrRange, (*exam).noWidth},
		{api.ErrMedia, (*exam).notOfItsKind},
		{api.ErrLong, (*exam).longTitle},
		{api.ErrName, (*exam).wrongTitle},
		{api.ErrLong, (*exam).manyThings},
		{api.ErrManifest, (*exam).emptyIndex},
	}
}

// ofThing returns the conditions of a thing.
func ofThing() []condition {
	return []condition{
		{api.ErrMedia, (*exam).wrongMedia},
		{api.ErrDigest, (*exam).wrongDigest},
		{api.ErrSize, (*exam).wrongSize},
		{api.ErrName, (*exam).wrongPlatform},
		{api.ErrDouble, (*exam).doubled},
	}
}

// ofBytes returns the conditions of a manifest's bytes.
func ofBytes() []condition {
	return []condition{{api.ErrLong, (*exam).longBytes}}
}
