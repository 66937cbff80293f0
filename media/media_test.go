package media_test

import (
	"bytes"
	"math"
	"slices"
	"strings"
	"testing"

	"entrepot/api"
	"entrepot/media"
)

// numbers are numbers of every size, and those about the limits of the sizes.
func numbers() []int {
	list := []int{2, 3, 4, 5, 76, 77, 78, 190, 191, 192, 193, 199, 200, 255, 256, 4095, 4096, 4097, math.MaxInt - 1, math.MaxInt}
	for i := range 63 {
		list = append(list, 1<<i-1, 1<<i, 1<<i+3, 1<<i+4, 1<<i+77)
	}
	return list
}

// texts are texts of many lengths, which may be no text of any alphabet.
func texts() []string {
	list := []string{"", "a", "app", "linux/amd64", "\x00", "\xff\xfe", "ä\n", "M\x04\x00\x00"}
	for _, n := range []int{2, 31, 32, 33, 190, 191, 192, 193, 255, 256, 257, 1000} {
		list = append(list, strings.Repeat("\xc8\x00x", n)[:n])
	}
	return list
}

// idWith is a digest with one byte alone.
func idWith(i int, x byte) api.ID {
	var id api.ID
	id[i] = x
	return id
}

// described is a description that depends on a number: another one for each below 200.
func described(k int) api.Desc {
	d := api.Desc{Media: k % 7, Size: k * 37}
	for i := range d.ID {
		d.ID[i] = byte(k + i*k)
	}
	if k%3 == 0 {
		d.Platform = "p/" + strings.Repeat("q", k%11)
	}
	return d
}

func describedList(n int) []api.Desc {
	var list []api.Desc
	for i := range n {
		list = append(list, described(i+1))
	}
	return list
}

// manifests are manifests with every number of layers and of subs, and with every field alone.
func manifests() []api.Manifest {
	list := []api.Manifest{{Kind: image}, {Kind: index}}
	for n := range mostLayers + 1 {
		list = append(list, api.Manifest{Kind: image, Title: "app", Config: described(99), Layers: describedList(n)}, api.Manifest{Kind: image, Layers: make([]api.Desc, n)})
	}
	for n := range mostSubs + 1 {
		list = append(list, api.Manifest{Kind: index, Title: "app", Subs: describedList(n)}, api.Manifest{Kind: index, Subs: make([]api.Desc, n)})
	}
	var alone []api.Desc
	for _, n := range numbers() {
		alone = append(alone, api.Desc{Media: n}, api.Desc{Size: n})
	}
	for _, s := range texts() {
		alone = append(alone, api.Desc{Platform: s})
		list = append(list, api.Manifest{Kind: image, Title: s}, api.Manifest{Kind: index, Title: s})
	}
	for i := range 32 {
		alone = append(alone, api.Desc{ID: idWith(i, 200)})
	}
	for _, d := range alone {
		list = append(list, api.Manifest{Kind: image, Config: d}, api.Manifest{Kind: image, Layers: []api.Desc{{}, d}}, api.Manifest{Kind: index, Subs: []api.Desc{d, {}}})
	}
	return list
}

// P11.1, P11.2: the examples of the chapter.
func TestExamples(t *testing.T) {
	b, err := media.Encode(api.Manifest{Kind: api.MediaIndex})
	if !bytes.Equal(b, []byte{77, 4, 0, 0}) || err != api.OK {
		t.Errorf("an index without title and subs: %v, %v", b, err)
	}
	if m, f := media.Decode([]byte{77, 4, 0, 0}); !same(m, api.Manifest{Kind: api.MediaIndex}) || f != (api.Fault{}) {
		t.Errorf("Decode of that: %v, %v", m, f)
	}
	cases := []struct {
		m    api.Manifest
		want api.Errno
	}{
		{api.Manifest{Kind: 5}, api.ErrMedia},
		{api.Manifest{Kind: api.MediaImage, Subs: make([]api.Desc, 1)}, api.ErrMedia},
		{api.Manifest{Kind: api.MediaIndex, Subs: make([]api.Desc, 9)}, api.ErrLong},
		{api.Manifest{Kind: api.MediaImage, Config: api.Desc{Size: -1}}, api.ErrRange},
	}
	for i, c := range cases {
		if b, err := media.Encode(c.m); len(b) != 0 || err != c.want {
			t.Errorf("%d: %v, %v, not %v", i, b, err, c.want)
		}
	}
	config, x, y := described(1), described(2), described(3)
	if got := media.Descs(api.Manifest{Kind: api.MediaImage, Config: config, Layers: []api.Desc{x, y}}); !slices.Equal(got, []api.Desc{config, x, y}) {
		t.Errorf("Descs: %v", got)
	}
}

// P11.1: an encoding byte by byte, of an image and of an index.
func TestEncodingByteByByte(t *testing.T) {
	id := func(x byte) []byte { return bytes.Repeat([]byte{x}, 32) }
	x := api.Desc{Media: 1, ID: api.ID(id(7)), Size: 192, Platform: "ab"}
	y := api.Desc{Media: 300, ID: api.ID(id(8)), Size: 5}
	bytesOfX := slices.Concat([]byte{1}, id(7), []byte{192, 192, 2, 'a', 'b'})
	bytesOfY := slices.Concat([]byte{193, 1, 44}, id(8), []byte{5, 0})
	want := slices.Concat([]byte{77, 3, 1, 'T'}, bytesOfX, []byte{2}, bytesOfY, bytesOfX)
	if b, err := media.Encode(api.Manifest{Kind: 3, Title: "T", Config: x, Layers: []api.Desc{y, x}}); !bytes.Equal(b, want) || err != api.OK {
		t.Errorf("an image: %v, %v", b, err)
	}
	want = slices.Concat([]byte{77, 4, 2, 'T', 'U', 3}, bytesOfY, bytesOfX, bytesOfY)
	if b, err := media.Encode(api.Manifest{Kind: 4, Title: "TU", Subs: []api.Desc{y, x, y}}); !bytes.Equal(b, want) || err != api.OK {
		t.Errorf("an index: %v, %v", b, err)
	}
}

// P11.1, P11.4: manifests of every shape are encoded as the chapter says, and decoded as they were.
func TestEncodings(t *testing.T) {
	for _, m := range manifests() {
		if refusal(m) != api.OK {
			t.Fatalf("%v cannot be encoded", m)
		}
		checkEncode(t, m)
	}
}

// P11.1: of all kinds there are only two.
func TestKinds(t *testing.T) {
	kinds := append(numbers(), math.MinInt, math.MinInt+3, -1<<32+3, -1<<32+4)
	for k := range 300 {
		kinds = append(kinds, k, -k)
	}
	for _, k := range kinds {
		m := api.Manifest{Kind: k, Title: "app"}
		checkEncode(t, m)
		if _, err := media.Encode(m); (err == api.OK) != (k == image || k == index) || err != api.OK && err != api.ErrMedia {
			t.Errorf("Kind %d: %v", k, err)
		}
	}
}

// P11.1: what the other kind has, each field and each byte of it alone; lists without anything are empty, lists of empty descriptions are not.
func TestWhatTheOtherKindHas(t *testing.T) {
	var configs []api.Desc
	for _, n := range []int{1, 3, 4, 1 << 32, math.MaxInt, -1, math.MinInt} {
		configs = append(configs, api.Desc{Media: n}, api.Desc{Size: n})
	}
	for i := range 32 {
		configs = append(configs, api.Desc{ID: idWith(i, 1)}, api.Desc{ID: idWith(i, 128)})
	}
	configs = append(configs, api.Desc{Platform: "a"}, api.Desc{Platform: "\x00"}, described(3))
	cases := []api.Manifest{
		{Kind: image, Subs: make([]api.Desc, 1)},
		{Kind: image, Subs: make([]api.Desc, 9)},
		{Kind: image, Config: described(1), Layers: describedList(3), Subs: describedList(1)},
		{Kind: image, Subs: []api.Desc{{Size: -1}}},
		{Kind: index, Layers: make([]api.Desc, 1)},
		{Kind: index, Layers: make([]api.Desc, 17)},
		{Kind: index, Subs: describedList(3), Layers: describedList(1)},
		{Kind: index, Layers: []api.Desc{{Media: -1}}},
		{Kind: index, Config: described(1), Layers: describedList(1), Subs: describedList(1)},
	}
	for _, c := range configs {
		cases = append(cases, api.Manifest{Kind: index, Config: c}, api.Manifest{Kind: index, Config: c, Subs: describedList(2)})
	}
	for _, m := range cases {
		if b, err := media.Encode(m); len(b) != 0 || err != api.ErrMedia {
			t.Errorf("%v: %v, %v", m, b, err)
		}
	}
	for _, m := range []api.Manifest{{Kind: image, Subs: []api.Desc{}, Layers: []api.Desc{}}, {Kind: index, Layers: []api.Desc{}, Subs: []api.Desc{}}, {Kind: image, Config: described(3), Subs: describedList(3)[:0]}} {
		if _, err := media.Encode(m); err != api.OK {
			t.Errorf("%v: %v", m, err)
		}
		checkEncode(t, m)
	}
}

// P11.1: a Media and a Size below 0, in each description.
func TestNegative(t *testing.T) {
	for _, n := range []int{-1, -2, -192, -1 << 32, math.MinInt + 1, math.MinInt} {
		for _, bad := range []api.Desc{{Media: n}, {Size: n}, {Media: n, Size: 7}, {Media: 7, Size: n}, {Media: n, Size: n}} {
			wrong := []api.Manifest{{Kind: image, Config: bad}, {Kind: image, Config: bad, Layers: describedList(16)}}
			for count := range mostLayers + 4 {
				for i := range count {
					list := describedList(count)
					list[i] = bad
					wrong = append(wrong, api.Manifest{Kind: image, Config: described(1), Layers: list}, api.Manifest{Kind: index, Subs: list})
				}
			}
			for _, m := range wrong {
				if b, err := media.Encode(m); len(b) != 0 || err != api.ErrRange {
					t.Fatalf("%v: %v, %v", m, b, err)
				}
			}
		}
	}
}

// P11.1: more layers and more subs than there may be.
func TestTooMany(t *testing.T) {
	for _, n := range []int{0, 1, 7, 8, 9, 10, 15, 16, 17, 18, 24, 32, 191, 192, 256 + 8, 256 + 16, 65536 + 3, 1 << 20} {
		for kind, most := range map[int]int{image: 16, index: 8} {
			m := api.Manifest{Kind: kind}
			if kind == image {
				m.Layers = make([]api.Desc, n)
			} else {
				m.Subs = make([]api.Desc, n)
			}
			b, err := media.Encode(m)
			if (err == api.OK) != (n <= most) || err != api.OK && (err != api.ErrLong || len(b) != 0) {
				t.Errorf("kind %d with %d: %v", kind, n, err)
			}
		}
	}
}

// sized returns manifests of every shape with exactly so many bytes, the last ones of which are of a title or of a platform.
func sized(t *testing.T, n int) []api.Manifest {
	t.Helper()
	var list []api.Manifest
	for _, m := range []api.Manifest{
		{Kind: index},
		{Kind: image},
		{Kind: image, Config: described(5), Layers: describedList(16)},
		{Kind: index, Subs: describedList(8)},
	} {
		m.Title = strings.Repeat("x", 300)
		m.Title = strings.Repeat("\xfft", n)[:300+n-len(encoding(m))]
		list = append(list, m)
		m.Title = ""
		m.Layers, m.Subs = slices.Clone(m.Layers), slices.Clone(m.Subs)
		d := &m.Config
		if len(m.Layers) > 0 && n%2 == 0 {
			d = last(m.Layers)
		} else if m.Kind == index {
			m.Subs = append(m.Subs, described(1))[:max(1, len(m.Subs))]
			d = last(m.Subs)
		}
		d.Platform = strings.Repeat("x", 300)
		d.Platform = strings.Repeat("\x00p", n)[:300+n-len(encoding(m))]
		list = append(list, m)
	}
	for _, m := range list {
		if len(encoding(m)) != n {
			t.Fatalf("%d bytes, not %d", len(encoding(m)), n)
		}
	}
	return list
}

// P11.1, P11.2: 4,096 bytes are not too many, and one more is.
func TestGreatest(t *testing.T) {
	for n := 4080; n <= 4110; n++ {
		for _, m := range sized(t, n) {
			b, err := media.Encode(m)
			if (err == api.OK) != (n <= 4096) || err != api.OK && err != api.ErrLong || err == api.OK && len(b) != n {
				t.Errorf("Kind %d of %d bytes: %d, %v", m.Kind, n, len(b), err)
			}
			checkEncode(t, m)
			got, f := media.Decode(encoding(m))
			if n <= 4096 && (!same(got, m) || f != (api.Fault{})) || n > 4096 && (!same(got, api.Manifest{}) || f != (api.Fault{Err: api.ErrLong, At: 4096})) {
				t.Errorf("Kind %d of %d bytes is decoded to %v, %v", m.Kind, n, got, f)
			}
		}
	}
	for _, n := range []int{4092, 4093, 4096, 5000, 1 << 16, 1 << 24} {
		s := strings.Repeat("x", n)
		for _, m := range []api.Manifest{{Kind: index, Title: s}, {Kind: image, Title: s}, {Kind: image, Config: api.Desc{Platform: s}}, {Kind: index, Subs: []api.Desc{{Platform: s}}}} {
			if b, err := media.Encode(m); len(b) != 0 || err != api.ErrLong {
				t.Errorf("a text of %d bytes: %d, %v", n, len(b), err)
			}
		}
	}
}

// P11.1: each two and each three errors together, in either order: ErrMedia, then ErrRange, then ErrLong.
func TestEncodeOrder(t *testing.T) {
	defects := []struct {
		err   api.Errno
		spoil func(m *api.Manifest)
	}{
		{api.OK, func(*api.Manifest) {}},
		{api.ErrMedia, func(m *api.Manifest) { m.Kind = 5 }},
		{api.ErrMedia, func(m *api.Manifest) { m.Kind = -3 }},
		{api.ErrMedia, func(m *api.Manifest) {
			if m.Kind == index {
				m.Config.Size = -1
			} else {
				m.Subs = append(m.Subs, api.Desc{Media: -1})
			}
		}},
		{api.ErrRange, func(m *api.Manifest) { things(m)[0].Media = -1 }},
		{api.ErrRange, func(m *api.Manifest) { last(things(m)).Size = -1 }},
		{api.ErrLong, func(m *api.Manifest) { m.Title = strings.Repeat("t", 5000) }},
		{api.ErrLong, func(m *api.Manifest) { things(m)[0].Platform = strings.Repeat("p", 4096) }},
		{api.ErrLong, func(m *api.Manifest) {
			if m.Kind == image {
				m.Layers = append(describedList(17), m.Layers...)
			} else {
				m.Subs = append(describedList(9), m.Subs...)
			}
		}},
	}
	rank := map[api.Errno]int{api.ErrMedia: 1, api.ErrRange: 2, api.ErrLong: 3, api.OK: 4}
	for _, kind := range []int{image, index} {
		for _, x := range defects {
			for _, y := range defects {
				for _, z := range defects {
					m := api.Manifest{Kind: kind, Layers: describedList(2)}
					if kind == index {
						m.Layers, m.Subs = nil, m.Layers
					}
					want := api.OK
					for _, d := range []api.Errno{x.err, y.err, z.err} {
						if rank[d] < rank[want] {
							want = d
						}
					}
					x.spoil(&m)
					y.spoil(&m)
					z.spoil(&m)
					if b, err := media.Encode(m); err != want || (len(b) > 0) != (want == api.OK) {
						t.Fatalf("%.300v: %v, not %v", m, err, want)
					}
				}
			}
		}
	}
}

// things is the list that is not empty.
func things(m *api.Manifest) []api.Desc {
	if len(m.Layers) > 0 {
		return m.Layers
	}
	return m.Subs
}

func last(list []api.Desc) *api.Desc {
	return &list[len(list)-1]
}

// P11.3: the config of an image alone, then layers, then subs, whatever the kind is, and whether or not it could be encoded.
func TestDescs(t *testing.T) {
	for _, kind := range []int{image, index, 0, 1, 2, 5, -3, -4, 1<<32 + 3, 256 + 3, math.MinInt, math.MaxInt} {
		for _, config := range []api.Desc{{}, described(50), {Media: -1}} {
			for layers := range 20 {
				for _, subs := range []int{0, 1, 2, 8, 9, 30} {
					m := api.Manifest{Kind: kind, Title: "app", Config: config, Layers: describedList(layers), Subs: describedList(subs + 60)[60:]}
					var want []api.Desc
					if kind == image {
						want = append(want, config)
					}
					want = append(append(want, m.Layers...), m.Subs...)
					if got := media.Descs(m); !slices.Equal(got, want) {
						t.Fatalf("Descs(%v) = %v", m, got)
					}
				}
			}
		}
	}
	if got := media.Descs(api.Manifest{}); len(got) != 0 {
		t.Errorf("Descs of nothing: %v", got)
	}
}

// withRoom returns a manifest whose lists have more behind them, and all of each list's memory.
func withRoom(m api.Manifest) (api.Manifest, [][]api.Desc) {
	layers, subs := append(slices.Clone(m.Layers), describedList(9)...), append(slices.Clone(m.Subs), describedList(9)...)
	layers[len(m.Layers)].Size, subs[len(m.Subs)].Size = -1, -1
	m.Layers, m.Subs = layers[:len(m.Layers)], subs[:len(m.Subs)]
	return m, [][]api.Desc{layers, subs}
}

// P11.1, P11.3: no argument is changed or looked at behind its end, and a result is new memory.
func TestMemory(t *testing.T) {
	for _, m := range manifests()[:60] {
		room, all := withRoom(m)
		before := [][]api.Desc{slices.Clone(all[0]), slices.Clone(all[1])}
		b, _ := media.Encode(room)
		list := media.Descs(room)
		if !bytes.Equal(b, encoding(m)) || !slices.Equal(list, media.Descs(m)) {
			t.Fatalf("%v: what is behind it was looked at", m)
		}
		clear(b[:cap(b)])
		for _, d := range list[:cap(list)][len(list):] {
			if d != (api.Desc{}) {
				t.Fatalf("%v: Descs returns more behind its end: %v", m, d)
			}
		}
		clear(list[:cap(list)])
		for i := range all {
			if !slices.Equal(all[i], before[i]) {
				t.Fatalf("%v was changed", m)
			}
		}
		checkEncode(t, room)
	}
}
