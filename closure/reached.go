package closure

import (
	"maps"
	"slices"

	"entrepot/api"
	"entrepot/sha"
)

// reached is the digests that a walk, or several ones, came to.
type reached map[api.ID]reach

// reach is how many levels below a digest were walked, at most.
type reach struct{ levels int }

// add adds the digest of a thing, and reports whether more levels below it can be walked from here than were before.
func (r reached) add(t *thing) bool {
	before, now := r[t.ID].levels, t.levels()
	r[t.ID] = reach{max(before, now)}
	return now > before
}

// inOrder returns the digests, in their order.
func (r reached) inOrder() []api.ID {
	return slices.SortedFunc(maps.Keys(r), sha.Compare)
}
