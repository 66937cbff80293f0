package strict_test

import (
	"slices"
	"strings"
	"testing"

	"entrepot/api"
	"entrepot/strict"
)

// chance makes choices of which none repeats soon, the same ones each time.
type chance uint64

// below returns a number from 0 on and below n.
func (c *chance) below(n int) int {
	*c = *c*6364136223846793005 + 1442695040888963407
	return int(uint64(*c)>>33) % n
}

// one returns one of a list.
func one[T any](c *chance, list ...T) T {
	return list[c.below(len(list))]
}

// seldom returns one of a list now and then, what is usual otherwise.
func seldom[T any](c *chance, usual T, list ...T) T {
	if c.below(25) == 0 {
		return one(c, list...)
	}
	return usual
}

// id returns a digest out of a few, most of them of a small width.
func (c *chance) id() api.ID {
	id := api.ID{byte(c.below(60))}
	return seldom(c, id, api.ID{}, api.ID{1: 1}, api.ID{7: 9}, api.ID{30: 1}, api.ID{31: 1})
}

func (c *chance) desc(kind int) api.Desc {
	d := api.Desc{Media: seldom(c, kind, 0, 1, 2, 3, 4, 5, -1), ID: c.id()}
	d.Size = seldom(c, int(d.ID[0]), 0, 4096, 4097, -1, c.below(5000))
	if d.Media == image {
		d.Platform = strings.Repeat("a", 1+c.below(6)) + "/" + one(c, "x", "y", "z", "arm64", "*", "8")
	}
	d.Platform = seldom(c, d.Platform, "", "a/x", "a", "*/x", strings.Repeat("a", 63)+"/b")
	return d
}

func (c *chance) descs(n int, kinds ...int) []api.Desc {
	var list []api.Desc
	for range n {
		list = append(list, c.desc(one(c, kinds...)))
	}
	return list
}

// manifest returns a manifest that may be valid.
func (c *chance) manifest() api.Manifest {
	m := api.Manifest{Kind: one(c, image, index), Title: seldom(c, "app", "", "a\n", strings.Repeat("ä", 65), "\xff")}
	if m.Kind == image {
		m.Config = c.desc(config)
		m.Layers = c.descs(one(c, 0, 1, 2, 3, 16, 17), layer)
	} else {
		m.Subs = c.descs(one(c, 0, 1, 2, 3, 8, 9), image, image, index)
	}
	m.Kind = seldom(c, m.Kind, 0, 3, 4, 5)
	return m
}

// P12.4, P12.5: what is valid is read as it was, is valid at each greater width, and has each of its platforms chosen.
func checkTheorems(t *testing.T, m api.Manifest, width int) {
	t.Helper()
	b := bytesOf(t, m)
	for w := width; w <= 32; w++ {
		if f := strict.Check(m, w); f != (api.Fault{}) {
			t.Fatalf("%v is valid at %d, but at %d has %v", m, width, w, f)
		}
		if got, err := strict.Read(b, w); !same(got, m) || err != api.OK {
			t.Fatalf("Read(%v, %d) = %v, %v", b, w, got, err)
		}
	}
	for _, d := range m.Subs {
		if d.Platform == "" {
			continue
		}
		if got, is := strict.Choose(m, d.Platform); got != d || !is {
			t.Fatalf("Choose(%v, %q) = %v, %v", m, d.Platform, got, is)
		}
	}
}

// P12.1 to P12.5: many manifests, at all widths, beside the definitions of the chapter.
func TestManyManifests(t *testing.T) {
	c := chance(12)
	came := map[api.Fault]int{}
	for range 20000 {
		m, width := c.manifest(), seldom(&c, 1+c.below(32), 0, 33, -1)
		f := check(t, m, width)
		came[f]++
		if f == (api.Fault{}) {
			checkTheorems(t, m, width)
		}
		checkChoose(t, m, one(&c, "*/*", "a/*", "*/arm64", "aa/x", "*", "*/8"))
	}
	for _, err := range []api.Errno{api.OK, api.ErrRange, api.ErrMedia, api.ErrLong, api.ErrName, api.ErrManifest} {
		if came[api.Fault{Err: err}] < 100 {
			t.Errorf("%v at 0 came %d times", err, came[api.Fault{Err: err}])
		}
	}
	for _, err := range []api.Errno{api.ErrMedia, api.ErrDigest, api.ErrSize, api.ErrName, api.ErrDouble} {
		for at := 1; at <= 3; at++ {
			if n := came[api.Fault{Err: err, At: at}]; n < 20 && (err != api.ErrDouble || at > 1) {
				t.Errorf("%v at %d came %d times", err, at, n)
			}
		}
	}
}

// P12.4: bytes that are changed here and there: what Read returns is valid, and is what these bytes are of.
func TestManyBytes(t *testing.T) {
	c := chance(13)
	reads := 0
	for range 40000 {
		m := one(&c, valid()...)
		b := bytesOf(t, m)
		for n := c.below(4); n > 0; n-- {
			switch at := c.below(len(b)); c.below(3) {
			case 0:
				b[at] = byte(c.below(256))
			case 1:
				b = slices.Delete(b, at, min(at+1+c.below(36), len(b)))
			case 2:
				b = slices.Insert(b, at, b[c.below(len(b)):][:1]...)
			}
			if len(b) == 0 {
				break
			}
		}
		width := 1 + c.below(32)
		if !readAs(t, b, width) {
			continue
		}
		reads++
		got, _ := strict.Read(b, width)
		if again := bytesOf(t, got); !slices.Equal(again, b) {
			t.Fatalf("%v is read from %v, but has %v", got, b, again)
		}
	}
	if reads < 5000 {
		t.Errorf("%d were read", reads)
	}
}
