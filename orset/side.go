package orset

import (
	"slices"

	"entrepot/api"
	"entrepot/cloud"
)

// side is one of two that come together: what it holds, all that it has seen, and which dots stay beside the other one.
type side struct {
	held  []api.Held
	seen  api.Cloud
	stays func(d api.Dot) bool
}

// unseen returns what tells of a dot whether a cloud, which is in canonical form, lacks it.
func unseen(c api.Cloud) func(d api.Dot) bool {
	// cloud.Has checks all of its cloud each time, so that it is given no Dots.
	first := api.Cloud{V: c.V}
	return func(d api.Dot) bool {
		return !contains(c.Dots, d) && !cloud.Has(first, d)
	}
}

// staying returns what tells of a dot whether it stays beside somebody who has seen a cloud, and still has some dots, which ascend.
func staying(seen api.Cloud, still []api.Dot) func(d api.Dot) bool {
	lacking := unseen(seen)
	return func(d api.Dot) bool {
		return lacking(d) || contains(still, d)
	}
}

// holding returns what tells whether a digest is the one that is held.
func holding(id api.ID) func(h api.Held) bool {
	return func(h api.Held) bool { return h.ID == id }
}

// together returns the set of what stays of both sides, and of all that they have seen.
func together(sides [2]side) (api.Set, api.Errno) {
	held := remaining(sides)
	// A dot is there twice only if each side holds another digest with it.
	if !ascending(dotsOf(held)) {
		return api.Set{}, api.ErrConflict
	}
	seen, err := cloud.Join(sides[0].seen, sides[1].seen)
	if err != api.OK {
		return api.Set{}, err
	}
	return api.Set{Held: held, Seen: seen}, api.OK
}

// remaining returns what stays of both sides, in the order of its dots, and once if both hold the same.
func remaining(sides [2]side) []api.Held {
	var list []api.Held
	for _, s := range sides {
		for _, h := range s.held {
			if s.stays(h.Dot) {
				list = append(list, h)
			}
		}
	}
	slices.SortFunc(list, func(x, y api.Held) int { return compare(x.Dot, y.Dot) })
	return slices.Compact(list)
}
