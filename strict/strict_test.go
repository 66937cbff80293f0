package strict_test

import (
	"math"
	"slices"
	"strconv"
	"strings"
	"testing"

	"entrepot/api"
	"entrepot/media"
	"entrepot/strict"
)

// digest is a digest of one byte that depends on a number: another one for each from 1 to 255.
func digest(k int) api.ID {
	return api.ID{byte(k)}
}

// anImage is a valid image with a number of layers, anIndex a valid index with a number of images and one of indices.
func anImage(layers int) api.Manifest {
	m := api.Manifest{Kind: image, Title: "app", Config: api.Desc{Media: config, ID: digest(100), Size: 2}}
	for i := range layers {
		m.Layers = append(m.Layers, api.Desc{Media: layer, ID: digest(i + 1), Size: 3 + i})
	}
	return m
}

func anIndex(images, indices int) api.Manifest {
	m := api.Manifest{Kind: index, Title: "app"}
	for i := range images {
		m.Subs = append(m.Subs, api.Desc{Media: image, ID: digest(i + 1), Size: 9 + i, Platform: "linux/arm" + strconv.Itoa(i)})
	}
	for i := range indices {
		m.Subs = append(m.Subs, api.Desc{Media: index, ID: digest(i + 50), Size: 7})
	}
	return m
}

// valid are valid manifests.
func valid() []api.Manifest {
	return []api.Manifest{anImage(0), anImage(1), anImage(3), anImage(16), anIndex(1, 0), anIndex(0, 1), anIndex(2, 2), anIndex(8, 0), anIndex(0, 8)}
}

// thing is where the thing of a number is in a manifest.
func thing(m *api.Manifest, at int) *api.Desc {
	if m.Kind == index {
		return &m.Subs[at-1]
	}
	if at == 1 {
		return &m.Config
	}
	return &m.Layers[at-2]
}

// changed is a manifest with its thing of a number changed.
func changed(m api.Manifest, at int, change func(d *api.Desc)) api.Manifest {
	m = copied(m)
	change(thing(&m, at))
	return m
}

// platformOf is a platform that nothing else here has if the thing is to have one.
func platformOf(d api.Desc) string {
	if d.Media == image {
		return "one/more"
	}
	return ""
}

// extremes are numbers far away from all that are allowed.
func extremes() []int {
	return []int{math.MinInt, math.MinInt + 1, math.MinInt32, -1 << 32, -257, -256, -33, -2, -1, 257, 1 << 16, 1<<32 + 1, 1<<32 + 3, 1<<32 + 4, math.MaxInt32, math.MaxInt - 1, math.MaxInt}
}

// P12.1, P12.2, P12.3: the examples of the chapter.
func TestExamples(t *testing.T) {
	c := api.Desc{Media: api.MediaConfig, ID: api.ID{1, 30: 2, 31: 3}, Size: 2}
	l := api.Desc{Media: api.MediaLayer, ID: api.ID{2, 31: 7}, Size: 3}
	m := api.Manifest{Kind: api.MediaImage, Config: c, Layers: []api.Desc{l}}
	sub := api.Desc{Media: api.MediaImage, ID: api.ID{3, 31: 9}, Size: 80, Platform: "linux/amd64"}
	i := api.Manifest{Kind: api.MediaIndex, Subs: []api.Desc{sub}}
	expectValid(t, m, 32)
	expect(t, m, 0, api.ErrRange, 0)
	expect(t, api.Manifest{Kind: api.MediaIndex}, 32, api.ErrManifest, 0)
	expect(t, changed(m, 1, func(d *api.Desc) { d.Media = 2 }), 32, api.ErrMedia, 1)
	expect(t, changed(m, 2, func(d *api.Desc) { d.Size = -1 }), 32, api.ErrSize, 2)
	m.Layers = []api.Desc{l, l}
	expectValid(t, m, 32)
	expect(t, changed(m, 3, func(d *api.Desc) { d.Size = 4 }), 32, api.ErrDouble, 3)
	expect(t, api.Manifest{Kind: api.MediaIndex, Subs: []api.Desc{sub, sub}}, 32, api.ErrDouble, 2)
	expectValid(t, i, 32)
	if a, b, is := strict.Split("linux/amd64"); a != "linux" || b != "amd64" || !is {
		t.Errorf("Split(linux/amd64) = %q, %q, %v", a, b, is)
	}
	if a, b, is := strict.Split("linux"); a != "" || b != "" || is {
		t.Errorf("Split(linux) = %q, %q, %v", a, b, is)
	}
	if !strict.Fits("linux/*", "linux/arm64") || strict.Fits("*", "linux/arm64") {
		t.Error("linux/* or * of linux/arm64")
	}
	if d, is := strict.Choose(i, "*/amd64"); d != sub || !is {
		t.Errorf("Choose(I, */amd64) = %v, %v", d, is)
	}
	if d, is := strict.Choose(i, "windows/*"); d != (api.Desc{}) || is {
		t.Errorf("Choose(I, windows/*) = %v, %v", d, is)
	}
	m.Layers = []api.Desc{l}
	if n := strict.Weight(m); n != 5 {
		t.Errorf("Weight = %d", n)
	}
}

// P12.1: which widths there are, for manifests with digests that have all of them.
func TestWidths(t *testing.T) {
	for _, m := range valid() {
		for width := range 33 {
			if width > 0 {
				expectValid(t, m, width)
			}
			expect(t, m, -width, api.ErrRange, 0)
			expect(t, m, 33+width, api.ErrRange, 0)
		}
		for _, width := range extremes() {
			expect(t, m, width, api.ErrRange, 0)
		}
		for _, width := range []int{257, 1<<32 + 1, 1<<16 + 32, -1 << 63, 256, 288} {
			expect(t, m, width, api.ErrRange, 0)
		}
	}
}

// P12.1, P12.5: digests that have some widths only, in each place: valid from a width on.
func TestWidthsOfDigests(t *testing.T) {
	for _, m := range []api.Manifest{anImage(0), anImage(5), anIndex(1, 0), anIndex(3, 2)} {
		for at := range len(things(m)) {
			for last := range 32 {
				longer := changed(m, at+1, func(d *api.Desc) { d.ID[last] = 0x80 >> (last % 8) })
				for width := 1; width <= 32; width++ {
					if width > last {
						expectValid(t, longer, width)
					} else {
						expect(t, longer, width, api.ErrDigest, at+1)
					}
				}
			}
		}
	}
}

// P12.1: kinds that there are not.
func TestKinds(t *testing.T) {
	for _, kind := range append(extremes(), 0, 1, 2, 5, 6, 7, 77) {
		for _, m := range valid() {
			m.Kind = kind
			expect(t, m, 32, api.ErrMedia, 0)
			expect(t, api.Manifest{Kind: kind, Title: m.Title}, 32, api.ErrMedia, 0)
		}
	}
	expect(t, api.Manifest{}, 32, api.ErrMedia, 0)
}

// P12.1: what a kind does not have is empty; no list and a list of nothing are both empty, one of a description of noughts is not.
func TestWhatAKindHasNot(t *testing.T) {
	m := anImage(2)
	m.Subs = []api.Desc{}
	expectValid(t, m, 32)
	for _, d := range []api.Desc{{}, anIndex(1, 0).Subs[0]} {
		m.Subs = []api.Desc{d}
		expect(t, m, 32, api.ErrMedia, 0)
	}
	m.Subs = make([]api.Desc, 9)
	expect(t, m, 32, api.ErrMedia, 0)
	m = anIndex(2, 0)
	m.Layers = []api.Desc{}
	expectValid(t, m, 32)
	for _, d := range []api.Desc{{}, anImage(1).Layers[0]} {
		m.Layers = []api.Desc{d}
		expect(t, m, 32, api.ErrMedia, 0)
	}
	m.Layers = make([]api.Desc, 17)
	expect(t, m, 32, api.ErrMedia, 0)
	m.Layers = nil
	configs := []api.Desc{anImage(0).Config, {Media: 1}, {Media: -1}, {Size: 1}, {Size: -1}, {Size: 5000}, {Platform: "a"}, {Platform: "\x00"}}
	for i := range 32 {
		d := api.Desc{}
		d.ID[i] = 1
		configs = append(configs, d)
	}
	for _, d := range configs {
		m.Config = d
		expect(t, m, 32, api.ErrMedia, 0)
	}
}

// P12.1: titles, with the error that layer 3 has for them.
func TestTitles(t *testing.T) {
	cases := []struct {
		title string
		want  api.Errno
	}{
		{"", api.OK},
		{"Läden 7", api.OK},
		{strings.Repeat("a", 64), api.OK},
		{strings.Repeat("\U0001F600", 64), api.OK},
		{strings.Repeat("ä", 64), api.OK},
		{"\uFFFD", api.OK},
		{strings.Repeat("a", 65), api.ErrLong},
		{strings.Repeat("ä", 65), api.ErrLong},
		{strings.Repeat("a", 64) + "\n", api.ErrLong},
		{strings.Repeat("a", 5000), api.ErrLong},
		{strings.Repeat("a", 1<<20), api.ErrLong},
		{strings.Repeat("a", 63) + "\n", api.ErrName},
		{"\n" + strings.Repeat("a", 64), api.ErrName},
		{"a\n", api.ErrName},
		{"\x00", api.ErrName},
		{"\xff", api.ErrName},
		{"ä\xc3", api.ErrName},
		{"\u200B", api.ErrName},
		{"\u00A0", api.ErrName},
		{"\xff" + strings.Repeat("a", 5000), api.ErrName},
	}
	for _, m := range valid() {
		for _, c := range cases {
			m.Title = c.title
			expect(t, m, 32, c.want, 0)
		}
	}
}

// P12.1: how many layers and subs there are.
func TestNumbersOfThings(t *testing.T) {
	for n := range 40 {
		want := api.OK
		if n > mostLayers {
			want = api.ErrLong
		}
		expect(t, anImage(n), 32, want, 0)
		same := anImage(1)
		same.Layers = slices.Repeat(same.Layers, n)
		expect(t, same, 32, want, 0)
	}
	for n := range 20 {
		want := api.OK
		switch {
		case n == 0:
			want = api.ErrManifest
		case n > mostSubs:
			want = api.ErrLong
		}
		expect(t, anIndex(n, 0), 32, want, 0)
		expect(t, anIndex(0, n), 32, want, 0)
		expect(t, anIndex(n-n/2, n/2), 32, want, 0)
	}
	expect(t, api.Manifest{Kind: index, Subs: []api.Desc{}}, 32, api.ErrManifest, 0)
	expect(t, api.Manifest{Kind: index, Subs: make([]api.Desc, 9)}, 32, api.ErrLong, 0)
	expect(t, anImage(100000), 32, api.ErrLong, 0)
	expect(t, api.Manifest{Kind: index, Subs: make([]api.Desc, 100000)}, 32, api.ErrLong, 0)
}

// P12.1: the Media of each thing.
func TestMedia(t *testing.T) {
	for _, m := range valid() {
		for at := range len(things(m)) {
			right := []int{layer}
			switch {
			case m.Kind == index:
				right = []int{image, index}
			case at == 0:
				right = []int{config}
			}
			for _, n := range append(extremes(), 0, 1, 2, 3, 4, 5, 6, 7, 100) {
				other := changed(m, at+1, func(d *api.Desc) {
					d.Media = n
					d.Platform = platformOf(*d)
				})
				if slices.Contains(right, n) {
					expectValid(t, other, 32)
				} else {
					expect(t, other, 32, api.ErrMedia, at+1)
				}
			}
		}
	}
}

// P12.1: the Size of each thing.
func TestSizes(t *testing.T) {
	for _, m := range valid() {
		for at := range len(things(m)) {
			for _, n := range append(extremes(), 4097, 4098, 8192, -4096, -4095) {
				want := api.ErrSize
				if n >= 0 && n <= mostSize {
					want = api.OK
				}
				f := check(t, changed(m, at+1, func(d *api.Desc) { d.Size = n }), 32)
				if f.Err != want {
					t.Fatalf("size %d of %d: %v", n, at+1, f)
				}
			}
			for _, n := range []int{0, 1, 191, 192, 255, 256, 4095, 4096} {
				expectValid(t, changed(m, at+1, func(d *api.Desc) { d.Size = n }), 32)
			}
			expect(t, changed(m, at+1, func(d *api.Desc) { d.Size = -1 }), 32, api.ErrSize, at+1)
			expect(t, changed(m, at+1, func(d *api.Desc) { d.Size = 4097 }), 32, api.ErrSize, at+1)
		}
	}
}

// noPlatforms are strings that are no platforms, and not empty either.
func noPlatforms() []string {
	return []string{
		"linux", "linux/", "/amd64", "/", "a/b/c", "Linux/amd64", "linux/AMD64", "linux/*", "*/amd64", "*/*", "*", " ", "a/b ", " a/b", "a /b", "a//b", "/a/b", "a/b/", "a\n/b", "a/b\n", "a/b\x00", "ä/b", "a/ä", "a/\xff", "a-b/c", "a.b/c", "a_b/c", "a/b\uFFFD",
		strings.Repeat("a", 32) + "/" + strings.Repeat("b", 32), strings.Repeat("a", 63) + "/b", strings.Repeat("a", 64), strings.Repeat("a", 5000) + "/b",
	}
}

// platforms are strings that are platforms.
func platforms() []string {
	return []string{"linux/amd64", "a/b", "0/9", "z/a", "windows/amd64", "9a8/7z6", "a/a", strings.Repeat("a", 31) + "/" + strings.Repeat("b", 32), strings.Repeat("a", 62) + "/b", "a/" + strings.Repeat("b", 62)}
}

// P12.1: the Platform of each thing: of an image it is one, of all others it is empty.
func TestPlatforms(t *testing.T) {
	for _, m := range valid() {
		for at := range len(things(m)) {
			isImage := things(m)[at].Media == image
			for _, s := range platforms() {
				want := api.Fault{}
				if !isImage {
					want = api.Fault{Err: api.ErrName, At: at + 1}
				}
				expect(t, changed(m, at+1, func(d *api.Desc) { d.Platform = s }), 32, want.Err, want.At)
			}
			for _, s := range noPlatforms() {
				expect(t, changed(m, at+1, func(d *api.Desc) { d.Platform = s }), 32, api.ErrName, at+1)
			}
			if isImage {
				expect(t, changed(m, at+1, func(d *api.Desc) { d.Platform = "" }), 32, api.ErrName, at+1)
			}
		}
	}
}

// P12.1: digests that come twice in an image, at each two places: as the same thing only.
func TestDoubleDigestsOfImages(t *testing.T) {
	m := anImage(16)
	for second := 2; second <= 17; second++ {
		for first := 1; first < second; first++ {
			d := things(m)[first-1]
			twice := changed(m, second, func(e *api.Desc) { e.ID, e.Size = d.ID, d.Size })
			if first == 1 {
				expect(t, twice, 32, api.ErrDouble, second)
			} else {
				expectValid(t, twice, 32)
			}
			for _, size := range []int{0, d.Size - 1, d.Size + 1, d.Size + 256, 4096} {
				expect(t, changed(twice, second, func(e *api.Desc) { e.Size = size }), 32, api.ErrDouble, second)
			}
		}
	}
	twice := changed(m, 17, func(d *api.Desc) { d.ID = m.Layers[0].ID })
	for bit := range 256 {
		near := changed(twice, 17, func(d *api.Desc) { d.ID[bit/8] ^= 1 << (bit % 8) })
		if f := check(t, near, 32); bit >= 8 && f != (api.Fault{}) {
			t.Fatalf("%v: %v", near, f)
		}
	}
	m.Layers = slices.Repeat(m.Layers[:1], 16)
	expectValid(t, m, 32)
	for at := 2; at <= 17; at++ {
		other := changed(m, at, func(d *api.Desc) { d.Size++ })
		expect(t, other, 32, api.ErrDouble, max(at, 3))
	}
}

// P12.1: digests that come twice in an index, at each two places, whatever else these subs have.
func TestDoubleDigestsOfIndices(t *testing.T) {
	for _, m := range []api.Manifest{anIndex(8, 0), anIndex(0, 8), anIndex(4, 4)} {
		for second := 2; second <= 8; second++ {
			for first := 1; first < second; first++ {
				d := m.Subs[first-1]
				expect(t, changed(m, second, func(e *api.Desc) { e.ID = d.ID }), 32, api.ErrDouble, second)
				expect(t, changed(m, second, func(e *api.Desc) { e.ID, e.Size = d.ID, d.Size }), 32, api.ErrDouble, second)
				expect(t, changed(m, second, func(e *api.Desc) { *e = d }), 32, api.ErrDouble, second)
				expect(t, changed(m, second, func(e *api.Desc) {
					*e = d
					e.Media = image + index - d.Media
					e.Platform = platformOf(*e)
				}), 32, api.ErrDouble, second)
			}
		}
	}
}

// P12.1: platforms that come twice, at each two places; none comes as often as it likes.
func TestDoublePlatforms(t *testing.T) {
	m := anIndex(8, 0)
	for second := 2; second <= 8; second++ {
		for first := 1; first < second; first++ {
			s := m.Subs[first-1].Platform
			expect(t, changed(m, second, func(e *api.Desc) { e.Platform = s }), 32, api.ErrDouble, second)
			expectValid(t, changed(m, second, func(e *api.Desc) { e.Platform = s + "0" }), 32)
			expectValid(t, changed(m, second, func(e *api.Desc) { e.Platform = "0" + s }), 32)
		}
	}
	apart := anIndex(3, 5)
	apart.Subs[0], apart.Subs[7] = apart.Subs[7], apart.Subs[0]
	expectValid(t, apart, 32)
	expect(t, changed(apart, 8, func(d *api.Desc) { d.Platform = apart.Subs[1].Platform }), 32, api.ErrDouble, 8)
	expectValid(t, anIndex(0, 8), 32)
}

// P12.1: the digest of noughts is one like others, and has nothing to do with platforms.
func TestDigestOfNoughts(t *testing.T) {
	for _, m := range valid() {
		for at := range len(things(m)) {
			nought := changed(m, at+1, func(d *api.Desc) { d.ID = api.ID{} })
			for width := 1; width <= 32; width++ {
				expectValid(t, nought, width)
			}
			for other := at + 1; other < len(things(m)); other++ {
				twice := changed(nought, other+1, func(d *api.Desc) { d.ID = api.ID{} })
				expect(t, twice, 32, api.ErrDouble, other+1)
			}
		}
	}
}

// P12.1: a manifest with as many bytes as a valid one can have has few enough: nothing else is left to be too long.
func TestGreatestManifests(t *testing.T) {
	title := strings.Repeat("\U0001F600", 64)
	m, n := anImage(16), anIndex(8, 0)
	m.Title, n.Title = title, title
	m.Config.Size = 4096
	for i := range m.Layers {
		m.Layers[i].Size = 4096
	}
	for i := range n.Subs {
		n.Subs[i].Size = 4096
		n.Subs[i].Platform = strings.Repeat("a", 61) + "/b" + strconv.Itoa(i)
	}
	for _, greatest := range []api.Manifest{m, n} {
		expectValid(t, greatest, 32)
		b, err := media.Encode(greatest)
		if err != api.OK || len(b) != encodedBytes(greatest) || len(b) > mostBytes {
			t.Errorf("%d bytes, %v", len(b), err)
		}
	}
}

// P12.3: sizes that no blob has do not weigh, and neither does the config of what is no image.
func TestWeights(t *testing.T) {
	m := anImage(3)
	m.Layers[0].Size, m.Layers[1].Size, m.Layers[2].Size = 4096, 4097, -1
	cases := []struct {
		m    api.Manifest
		want int
	}{
		{api.Manifest{}, 0},
		{anImage(0), 2},
		{anImage(3), 2 + 3 + 4 + 5},
		{m, 2 + 4096},
		{anIndex(2, 2), 9 + 10 + 7 + 7},
		{api.Manifest{Kind: index, Config: m.Config, Layers: m.Layers, Subs: m.Layers[:1]}, 8192},
		{api.Manifest{Kind: image, Config: m.Config, Layers: m.Layers, Subs: m.Layers[:1]}, 8194},
		{api.Manifest{Kind: 9, Config: m.Config, Layers: m.Layers[:1]}, 4096},
		{api.Manifest{Kind: image, Config: api.Desc{Size: math.MinInt}, Layers: []api.Desc{{Size: math.MaxInt}, {Size: 1 << 32}, {Size: 1<<32 + 1}, {Size: -4096}, {Size: 1}}}, 1},
		{api.Manifest{Kind: image, Layers: slices.Repeat([]api.Desc{{Size: 4096}}, 1000000)}, 4096000000},
	}
	for i, c := range cases {
		if n := strict.Weight(c.m); n != c.want || n != weight(c.m) {
			t.Errorf("%d: %d, not %d", i, n, c.want)
		}
	}
	for _, n := range append(extremes(), 0, 1, 4095, 4096, 4097) {
		want := 0
		if n >= 0 && n <= 4096 {
			want = n
		}
		for _, kind := range []int{image, index, 0} {
			list := []api.Desc{{Size: n}, {Size: n}}
			if got := strict.Weight(api.Manifest{Kind: kind, Layers: list}); got != 2*want {
				t.Errorf("layers of %d: %d", n, got)
			}
			if got := strict.Weight(api.Manifest{Kind: kind, Subs: list}); got != 2*want {
				t.Errorf("subs of %d: %d", n, got)
			}
		}
	}
}

// P12.3, P12.1: what is passed is neither changed nor looked at behind its end.
func TestArguments(t *testing.T) {
	for _, m := range valid() {
		given := copied(m)
		strict.Check(given, 32)
		strict.Weight(given)
		strict.Choose(given, "*/*")
		if !same(given, m) || given.Layers[:len(m.Layers)+1][len(m.Layers)].Media != 99 || given.Subs[:len(m.Subs)+1][len(m.Subs)].Media != 99 {
			t.Errorf("%v was changed", m)
		}
	}
}
