package strict_test

import (
	"bytes"
	"regexp"
	"slices"
	"strings"
	"testing"
	"unicode"
	"unicode/utf8"

	"entrepot/api"
	"entrepot/media"
	"entrepot/strict"
)

// The limits and kinds of the chapter, in numbers of the tests' own.
const (
	config     = 1
	layer      = 2
	image      = 3
	index      = 4
	mostSize   = 4096
	mostBytes  = 4096
	mostLayers = 16
	mostSubs   = 8
)

var (
	platformPattern = regexp.MustCompile(`^[a-z0-9]+/[a-z0-9]+$`)
	patternPattern  = regexp.MustCompile(`^([a-z0-9]+|\*)/([a-z0-9]+|\*)$`)
)

// isPlatform and isPattern are the definitions of the chapters.
func isPlatform(s string) bool {
	return len(s) <= 64 && platformPattern.MatchString(s)
}

func isPattern(s string) bool {
	return patternPattern.MatchString(s)
}

func fits(pattern, platform string) bool {
	if !isPattern(pattern) || !isPlatform(platform) {
		return false
	}
	p, q := strings.Split(pattern, "/"), strings.Split(platform, "/")
	return (p[0] == "*" || p[0] == q[0]) && (p[1] == "*" || p[1] == q[1])
}

func choice(m api.Manifest, pattern string) (api.Desc, bool) {
	i := slices.IndexFunc(m.Subs, func(d api.Desc) bool { return fits(pattern, d.Platform) })
	if i < 0 {
		return api.Desc{}, false
	}
	return m.Subs[i], true
}

// things are what Descs of layer 11 is to return.
func things(m api.Manifest) []api.Desc {
	var list []api.Desc
	if m.Kind == image {
		list = append(list, m.Config)
	}
	list = append(list, m.Layers...)
	return append(list, m.Subs...)
}

func weight(m api.Manifest) int {
	sum := 0
	for _, d := range things(m) {
		if d.Size >= 0 && d.Size <= mostSize {
			sum += d.Size
		}
	}
	return sum
}

// titleFault is the error of a title.
func titleFault(s string) api.Errno {
	runes := 0
	for len(s) > 0 {
		r, n := utf8.DecodeRuneInString(s)
		if runes++; runes > 64 {
			return api.ErrLong
		}
		if r == utf8.RuneError && n == 1 || !unicode.IsPrint(r) {
			return api.ErrName
		}
		s = s[n:]
	}
	return api.OK
}

// numberBytes is how many bytes a number has, descBytes a description, and encodedBytes a manifest.
func numberBytes(n int) int {
	if n <= 191 {
		return 1
	}
	k := 1
	for ; n > 0; n /= 256 {
		k++
	}
	return k
}

func descBytes(d api.Desc) int {
	return numberBytes(d.Media) + 32 + numberBytes(d.Size) + numberBytes(len(d.Platform)) + len(d.Platform)
}

func encodedBytes(m api.Manifest) int {
	sum := 2 + numberBytes(len(m.Title)) + len(m.Title) + 1
	for _, d := range things(m) {
		sum += descBytes(d)
	}
	return sum
}

// firstFault is the error of the manifest itself.
func firstFault(m api.Manifest, width int) api.Errno {
	switch empty := (api.Desc{}); {
	case width < 1 || width > 32:
		return api.ErrRange
	case m.Kind != image && m.Kind != index:
		return api.ErrMedia
	case m.Kind == image && len(m.Subs) > 0 || m.Kind == index && (m.Config != empty || len(m.Layers) > 0):
		return api.ErrMedia
	case titleFault(m.Title) != api.OK:
		return titleFault(m.Title)
	case len(m.Layers) > mostLayers || len(m.Subs) > mostSubs:
		return api.ErrLong
	case m.Kind == index && len(m.Subs) == 0:
		return api.ErrManifest
	}
	return api.OK
}

// mediaFits reports whether the thing i of a manifest may have its Media.
func mediaFits(m api.Manifest, i int) bool {
	switch d := things(m)[i]; {
	case m.Kind == index:
		return d.Media == image || d.Media == index
	case i == 0:
		return d.Media == config
	default:
		return d.Media == layer
	}
}

// thingFault is the error of the thing i of a manifest.
func thingFault(m api.Manifest, i, width int) api.Errno {
	list := things(m)
	d := list[i]
	switch {
	case !mediaFits(m, i):
		return api.ErrMedia
	case !bytes.Equal(d.ID[width:], make([]byte, 32-width)):
		return api.ErrDigest
	case d.Size < 0 || d.Size > mostSize:
		return api.ErrSize
	case d.Media == image && !isPlatform(d.Platform) || d.Media != image && d.Platform != "":
		return api.ErrName
	}
	for _, e := range list[:i] {
		if e.ID == d.ID && (e.Media != d.Media || e.Size != d.Size) {
			return api.ErrDouble
		}
		if m.Kind == index && (e.ID == d.ID || d.Platform != "" && e.Platform == d.Platform) {
			return api.ErrDouble
		}
	}
	return api.OK
}

// fault is the fault of a manifest, as the chapter defines it.
func fault(m api.Manifest, width int) api.Fault {
	if err := firstFault(m, width); err != api.OK {
		return api.Fault{Err: err}
	}
	for i := range things(m) {
		if err := thingFault(m, i, width); err != api.OK {
			return api.Fault{Err: err, At: i + 1}
		}
	}
	if encodedBytes(m) > mostBytes {
		return api.Fault{Err: api.ErrLong}
	}
	return api.Fault{}
}

// same reports whether two manifests are the same, where no list and an empty one are.
func same(a, b api.Manifest) bool {
	return a.Kind == b.Kind && a.Title == b.Title && a.Config == b.Config && slices.Equal(a.Layers, b.Layers) && slices.Equal(a.Subs, b.Subs)
}

// copied is a manifest in memory of its own, with something behind the ends of its lists.
func copied(m api.Manifest) api.Manifest {
	behind := api.Desc{Media: 99, Size: -5, Platform: "?"}
	m.Layers = append(slices.Clone(m.Layers), behind)[:len(m.Layers)]
	m.Subs = append(slices.Clone(m.Subs), behind)[:len(m.Subs)]
	return m
}

// check examines a manifest as the chapter does, and returns its fault.
func check(t *testing.T, m api.Manifest, width int) api.Fault {
	t.Helper()
	want := fault(m, width)
	given := copied(m)
	if f := strict.Check(given, width); f != want {
		t.Fatalf("Check(%.500v, %d) = %v, not %v", m, width, f, want)
	}
	if !same(given, m) {
		t.Fatalf("Check changed %v to %v", m, given)
	}
	if n := strict.Weight(m); n != weight(m) {
		t.Fatalf("Weight(%.500v) = %d, not %d", m, n, weight(m))
	}
	checkRead(t, m, width)
	return want
}

// checkRead reads the bytes of a manifest, if it has some.
func checkRead(t *testing.T, m api.Manifest, width int) {
	t.Helper()
	b, err := media.Encode(m)
	if err != api.OK {
		if fault(m, width) == (api.Fault{}) {
			t.Fatalf("%v is valid, but cannot be encoded: %v", m, err)
		}
		return
	}
	readAs(t, b, width)
}

// readAs reads bytes as the chapters do, and reports whether they are those of a valid manifest.
func readAs(t *testing.T, b []byte, width int) bool {
	t.Helper()
	want, f := media.Decode(b)
	err := f.Err
	if err == api.OK {
		err = fault(want, width).Err
	}
	if err != api.OK {
		want = api.Manifest{}
	}
	given := slices.Clone(b)
	m, got := strict.Read(given, width)
	if !same(m, want) || got != err || !bytes.Equal(given, b) {
		t.Fatalf("Read(%v, %d) = %v, %v, not %v, %v", b, width, m, got, want, err)
	}
	return err == api.OK
}

// expect examines a manifest that is to have a fault, in the model too.
func expect(t *testing.T, m api.Manifest, width int, err api.Errno, at int) {
	t.Helper()
	if f := check(t, m, width); f != (api.Fault{Err: err, At: at}) {
		t.Fatalf("%.500v at %d: %v, not %v at %d", m, width, f, err, at)
	}
}

// expectValid examines a manifest that is to have no fault.
func expectValid(t *testing.T, m api.Manifest, width int) {
	t.Helper()
	expect(t, m, width, api.OK, 0)
}
