package media_test

import (
	"fmt"
	"math"
	"slices"
	"strings"
	"testing"

	"entrepot/api"
	"entrepot/media"
)

// choice makes choices of which none repeats soon, the same ones each time.
type choice uint64

// below returns a number from 0 on and below n.
func (c *choice) below(n int) int {
	*c = *c*6364136223846793005 + 1442695040888963407
	return int(uint64(*c)>>33) % n
}

// one returns one of a list.
func one[T any](c *choice, list ...T) T {
	return list[c.below(len(list))]
}

func (c *choice) number() int {
	return one(c, 0, 1, 2, 3, 4, c.below(200), 191, 192, c.below(4097), 1<<c.below(63), math.MaxInt)
}

func (c *choice) text() string {
	return one(c, "", "a", "linux/amd64", "\xff", strings.Repeat("\x00b", c.below(60)), strings.Repeat("x", 190+c.below(5)), strings.Repeat("y", c.below(600)))
}

func (c *choice) desc() api.Desc {
	d := api.Desc{Media: c.number(), Size: c.number(), Platform: c.text()}
	for i := range d.ID {
		d.ID[i] = byte(c.below(256))
	}
	if c.below(20) == 0 {
		d.Media = -c.number()
	}
	if c.below(20) == 0 {
		d.Size = -c.number()
	}
	return one(c, d, d, d, api.Desc{})
}

func (c *choice) descs(n int) []api.Desc {
	var list []api.Desc
	for range n {
		list = append(list, c.desc())
	}
	return list
}

// manifest returns a manifest that may be one that cannot be encoded.
func (c *choice) manifest() api.Manifest {
	m := api.Manifest{Kind: one(c, image, index), Title: c.text()}
	if m.Kind == image {
		m.Config = c.desc()
		m.Layers = c.descs(c.below(18))
	} else {
		m.Subs = c.descs(c.below(10))
	}
	switch c.below(40) {
	case 0:
		m.Kind = c.number()
	case 1:
		m.Config = c.desc()
	case 2:
		m.Layers = c.descs(c.below(3))
	case 3:
		m.Subs = c.descs(c.below(3))
	}
	return m
}

// P11.1, P11.4: many manifests are encoded as the chapter says or refused, and decoded as they were; none has the bytes of another one.
func TestManyManifests(t *testing.T) {
	c := choice(11)
	came := map[api.Errno]int{}
	by := map[string]api.Manifest{}
	for range 20000 {
		m := c.manifest()
		checkEncode(t, m)
		b, err := media.Encode(m)
		came[err]++
		if err != api.OK {
			continue
		}
		if other, is := by[string(b)]; is && !same(other, m) {
			t.Fatalf("%v has the bytes of %v", m, other)
		}
		by[string(b)] = m
	}
	for _, err := range []api.Errno{api.OK, api.ErrMedia, api.ErrRange, api.ErrLong} {
		if came[err] < 100 {
			t.Errorf("%v came %d times", err, came[err])
		}
	}
}

// changes are a manifest with one thing of it changed, in each place.
func changes(m api.Manifest) []api.Manifest {
	var list []api.Manifest
	change := func(spoil func(m *api.Manifest)) {
		n := m
		n.Layers, n.Subs = slices.Clone(m.Layers), slices.Clone(m.Subs)
		spoil(&n)
		list = append(list, n)
	}
	descs := func(find func(m *api.Manifest) *api.Desc) {
		change(func(m *api.Manifest) { find(m).Media++ })
		change(func(m *api.Manifest) { find(m).Size++ })
		change(func(m *api.Manifest) { find(m).Size += 256 })
		change(func(m *api.Manifest) { find(m).Platform += "\x00" })
		change(func(m *api.Manifest) { find(m).Platform = "x" + find(m).Platform })
		for i := range 32 {
			change(func(m *api.Manifest) { find(m).ID[i] ^= 1 })
		}
	}
	change(func(m *api.Manifest) { m.Title += "\x00" })
	change(func(m *api.Manifest) { m.Title = "x" + m.Title })
	if m.Kind == image {
		descs(func(m *api.Manifest) *api.Desc { return &m.Config })
		change(func(m *api.Manifest) { m.Layers = append(m.Layers, api.Desc{}) })
	} else {
		change(func(m *api.Manifest) { m.Subs = append(m.Subs, api.Desc{}) })
	}
	for i := range m.Layers {
		descs(func(m *api.Manifest) *api.Desc { return &m.Layers[i] })
		change(func(m *api.Manifest) { m.Layers = slices.Delete(m.Layers, i, i+1) })
	}
	for i := range m.Subs {
		descs(func(m *api.Manifest) *api.Desc { return &m.Subs[i] })
		change(func(m *api.Manifest) { m.Subs = slices.Delete(m.Subs, i, i+1) })
	}
	return list
}

// P11.4: whatever is changed of a manifest changes its bytes.
func TestChangedManifests(t *testing.T) {
	for _, m := range []api.Manifest{
		{Kind: image},
		{Kind: index},
		{Kind: image, Title: "app", Config: described(40), Layers: describedList(3)},
		{Kind: image, Title: "app", Config: described(40), Layers: describedList(15)},
		{Kind: index, Title: "app", Subs: describedList(3)},
		{Kind: index, Title: "app", Subs: describedList(7)},
	} {
		by := map[string]string{string(encoding(m)): "itself"}
		for _, n := range changes(m) {
			checkEncode(t, n)
			b, err := media.Encode(n)
			if other, is := by[string(b)]; is && other != fmt.Sprint(n) || err != api.OK {
				t.Fatalf("%v: %v, the bytes of %s", n, err, other)
			}
			by[string(b)] = fmt.Sprint(n)
		}
	}
}

// P11.2, P11.4: encodings with each byte changed to some others, left out, or doubled: faults, or manifests that have these bytes.
func TestChangedBytes(t *testing.T) {
	decoded := 0
	for _, m := range []api.Manifest{
		{Kind: image},
		{Kind: index, Title: "app"},
		{Kind: image, Title: "app", Config: described(40), Layers: describedList(2)},
		{Kind: image, Title: strings.Repeat("t", 200), Config: api.Desc{Media: 1, Size: 4000}},
		{Kind: index, Subs: describedList(4)},
	} {
		b := encoding(m)
		for i := range b {
			for x := range 256 {
				changed := slices.Clone(b)
				changed[i] = byte(x)
				if checkDecode(t, changed) {
					decoded++
				}
				if x%16 == 0 {
					checkDecode(t, slices.Insert(slices.Clone(b), i, byte(x)))
				}
			}
			checkDecode(t, slices.Delete(slices.Clone(b), i, i+1))
			checkDecode(t, slices.Insert(slices.Clone(b), i, b[i]))
		}
	}
	if decoded < 1000 {
		t.Errorf("%d were decoded", decoded)
	}
}

// P11.2, P11.4: all bytes of some lengths, out of those that matter most.
func TestShortBytes(t *testing.T) {
	list := []byte{0, 1, 3, 4, 8, 9, 77, 191, 192, 193, 199, 200, 255}
	decoded := 0
	var grow func(b []byte, n int)
	grow = func(b []byte, n int) {
		if checkDecode(t, b) {
			decoded++
		}
		if n == 0 {
			return
		}
		for _, x := range list {
			grow(append(slices.Clone(b), x), n-1)
		}
	}
	grow(nil, 3)
	grow([]byte{77}, 3)
	grow([]byte{77, 3}, 3)
	grow([]byte{77, 4}, 4)
	grow(append([]byte{77, 4, 0, 1, 3}, make([]byte, 32)...), 3)
	grow(append([]byte{77, 3, 0, 1}, make([]byte, 32)...), 4)
	grow(slices.Concat([]byte{77, 3, 0, 1}, make([]byte, 32), []byte{2, 0, 1, 2}, make([]byte, 32)), 3)
	if decoded < 100 {
		t.Errorf("%d were decoded", decoded)
	}
}

// P11.2, P11.4: bytes of all lengths that are like encodings here and there.
func TestManyBytes(t *testing.T) {
	c := choice(12)
	decoded := 0
	for range 60000 {
		b := []byte{77, byte(3 + c.below(2))}
		for n := c.below(12); n > 0; n-- {
			b = append(b, one(&c, []byte{byte(c.below(4))}, number(c.number()), text(c.text()), make([]byte, 32), desc(described(c.below(100))))...)
		}
		if checkDecode(t, b) {
			decoded++
		}
	}
	if decoded < 100 {
		t.Errorf("%d were decoded", decoded)
	}
}
