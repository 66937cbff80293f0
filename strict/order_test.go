package strict_test

import (
	"slices"
	"strings"
	"testing"

	"entrepot/api"
)

// spoiled is a manifest at a width, of which some things are wrong.
type spoiled struct {
	m     api.Manifest
	width int
}

// spoiler makes something wrong that has an error at a number.
type spoiler struct {
	err   api.Errno
	at    int
	spoil func(x *spoiled)
}

// ofWhole are what can be wrong with the manifest itself, in the order of the chapter.
func ofWhole(m api.Manifest) []spoiler {
	list := []spoiler{
		{api.ErrRange, 0, func(x *spoiled) { x.width = 33 }},
		{api.ErrMedia, 0, func(x *spoiled) { x.m.Kind = 9 }},
	}
	many := spoiler{api.ErrLong, 0, func(x *spoiled) { x.m.Layers = append(x.m.Layers, make([]api.Desc, 17)...) }}
	other := spoiler{api.ErrMedia, 0, func(x *spoiled) { x.m.Subs = append(x.m.Subs, api.Desc{}) }}
	if m.Kind == index {
		many.spoil, other.spoil = other.spoil, many.spoil
		many.spoil = func(x *spoiled) { x.m.Subs = append(x.m.Subs, make([]api.Desc, 9)...) }
		list = append(list, spoiler{api.ErrMedia, 0, func(x *spoiled) { x.m.Config.Platform = "a/b" }})
	}
	return append(list, other,
		spoiler{api.ErrLong, 0, func(x *spoiled) { x.m.Title = strings.Repeat("a", 65) }},
		spoiler{api.ErrName, 0, func(x *spoiled) { x.m.Title = "\n" }},
		many)
}

// ofThing are what can be wrong with a thing, in the order of the chapter.
func ofThing(at int) []spoiler {
	list := []spoiler{
		{api.ErrMedia, at, func(x *spoiled) { thing(&x.m, at).Media = 7 }},
		{api.ErrDigest, at, func(x *spoiled) { thing(&x.m, at).ID[31] = 1 }},
		{api.ErrSize, at, func(x *spoiled) { thing(&x.m, at).Size = 4097 }},
		{api.ErrName, at, func(x *spoiled) { thing(&x.m, at).Platform = "a" }},
	}
	if at == 1 {
		return list
	}
	return append(list, spoiler{api.ErrDouble, at, func(x *spoiled) {
		d := thing(&x.m, at)
		d.ID = thing(&x.m, at-1).ID
		d.Size = 17
	}})
}

// spoilers are all that can be wrong with a valid manifest, in the order of the chapter.
func spoilers(m api.Manifest) []spoiler {
	list := ofWhole(m)
	for i := range things(m) {
		list = append(list, ofThing(i+1)...)
	}
	return list
}

// expectFirst spoils a manifest, at the width 31, and expects the first error.
func expectFirst(t *testing.T, m api.Manifest, list ...spoiler) {
	t.Helper()
	x := &spoiled{copied(m), 31}
	for _, s := range slices.Backward(list) {
		s.spoil(x)
	}
	expect(t, x.m, x.width, list[0].err, list[0].at)
}

// P12.1: of one, two and three things that are wrong the first one counts.
func TestOrder(t *testing.T) {
	for _, m := range []api.Manifest{anImage(0), anImage(3), anIndex(3, 0), anIndex(0, 3), anIndex(2, 2)} {
		list := spoilers(m)
		for i, a := range list {
			expectFirst(t, m, a)
			for j, b := range list[i+1:] {
				expectFirst(t, m, a, b)
				for _, c := range list[i+1+j+1:] {
					expectFirst(t, m, a, b, c)
				}
			}
		}
	}
}

// P12.1: an index without subs may have a wrong title, and no kind makes it another one.
func TestOrderWithoutSubs(t *testing.T) {
	none := api.Manifest{Kind: index, Title: "app"}
	expect(t, none, 32, api.ErrManifest, 0)
	for _, s := range ofWhole(none)[:6] {
		x := &spoiled{none, 32}
		s.spoil(x)
		expect(t, x.m, x.width, s.err, 0)
	}
	expect(t, api.Manifest{Kind: image}, 32, api.ErrMedia, 1)
}

// P12.1: what a thing shares with a later one is that one's fault.
func TestLaterThings(t *testing.T) {
	for _, m := range []api.Manifest{anImage(5), anIndex(3, 3)} {
		n := len(things(m))
		for at := 1; at < n; at++ {
			same := changed(m, at, func(d *api.Desc) { d.ID = things(m)[n-1].ID })
			expect(t, same, 32, api.ErrDouble, n)
			for _, s := range ofThing(n)[:4] {
				expectFirst(t, same, s)
			}
		}
	}
}

// P12.1: where three things have something in common, the second one is the fault.
func TestThreeAlike(t *testing.T) {
	m := anIndex(8, 0)
	for a := 1; a <= 8; a++ {
		for b := a + 1; b <= 8; b++ {
			for c := b + 1; c <= 8; c++ {
				alike := changed(m, b, func(d *api.Desc) { d.ID = m.Subs[a-1].ID })
				expect(t, changed(alike, c, func(d *api.Desc) { d.ID = m.Subs[a-1].ID }), 32, api.ErrDouble, b)
				expect(t, changed(alike, c, func(d *api.Desc) { d.Platform = m.Subs[a-1].Platform }), 32, api.ErrDouble, b)
				alike = changed(m, b, func(d *api.Desc) { d.Platform = m.Subs[a-1].Platform })
				expect(t, changed(alike, c, func(d *api.Desc) { d.ID = m.Subs[b-1].ID }), 32, api.ErrDouble, b)
			}
		}
	}
}
