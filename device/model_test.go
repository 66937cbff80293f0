package device_test

import (
	"bytes"
	"math"
	"slices"
	"testing"

	"entrepot/api"
	"entrepot/device"
)

// model is a device, as the chapter defines it.
type model struct {
	image [][]byte
	loose []looseWrite
	fused bool
	fuse  int
	out   bool
}

type looseWrite struct {
	at int
	b  []byte
}

func newModel(n int) *model {
	m := &model{}
	for range n {
		m.image = append(m.image, make([]byte, 64))
	}
	return m
}

func (m *model) has(i int) bool { return 0 <= i && i < len(m.image) }

// refuses counts a write or a flush, and puts the model out if the fuse does not let it be made.
func (m *model) refuses() bool {
	if !m.fused {
		return false
	}
	m.fuse--
	m.out = m.fuse < 0
	return m.out
}

func (m *model) read(i int) ([]byte, api.Errno) {
	if m.out {
		return nil, api.ErrOut
	}
	for _, w := range slices.Backward(m.loose) {
		if w.at == i {
			return w.b, api.OK
		}
	}
	return m.imageOf(i)
}

func (m *model) imageOf(i int) ([]byte, api.Errno) {
	if !m.has(i) {
		return nil, api.ErrRange
	}
	return m.image[i], api.OK
}

func (m *model) write(i int, b []byte) api.Errno {
	switch {
	case m.out:
		return api.ErrOut
	case !m.has(i):
		return api.ErrRange
	case len(b) != 64:
		return api.ErrArg
	case m.refuses():
		return api.ErrOut
	}
	m.loose = append(m.loose, looseWrite{i, slices.Clone(b)})
	return api.OK
}

func (m *model) flush() api.Errno {
	if m.out || m.refuses() {
		return api.ErrOut
	}
	for _, w := range m.loose {
		m.image[w.at] = w.b
	}
	m.loose = nil
	return api.OK
}

func (m *model) setFuse(n int) api.Errno {
	switch {
	case m.out:
		return api.ErrOut
	case n < 0:
		return api.ErrArg
	}
	m.fused, m.fuse = true, n
	return api.OK
}

func (m *model) crash(keep []bool, torn int) api.Errno {
	if torn < 0 || torn > 63 {
		return api.ErrArg
	}
	var lost []looseWrite
	for i, w := range m.loose {
		if len(keep) > i && keep[i] {
			m.image[w.at] = w.b
		} else {
			lost = append(lost, w)
		}
	}
	if len(lost) > 0 {
		last := lost[len(lost)-1]
		m.image[last.at] = slices.Concat(last.b[:torn], m.image[last.at][torn:])
	}
	m.loose, m.fused, m.out = nil, false, false
	return api.OK
}

// of is a sector of one byte, 64 times.
func of(x byte) []byte { return bytes.Repeat([]byte{x}, 64) }

// mixed is a sector of 64 different bytes.
func mixed(x byte) []byte {
	b := make([]byte, 64)
	for i := range b {
		b[i] = x + 3*byte(i)
	}
	return b
}

// torn is a sector of which the first n bytes are others.
func torn(begin []byte, n int, rest []byte) []byte {
	return slices.Concat(begin[:n], rest[n:])
}

func newDevice(t *testing.T, n int) *device.Device {
	t.Helper()
	d, err := device.New(n)
	if d == nil || err != api.OK {
		t.Fatalf("New(%d) = %v, %v", n, d, err)
	}
	return d
}

// do expects that a call returns no error.
func do(t *testing.T, err api.Errno) {
	t.Helper()
	if err != api.OK {
		t.Fatal(err)
	}
}

// checkSectors expects what is read, sector by sector.
func checkSectors(t *testing.T, d *device.Device, want ...[]byte) {
	t.Helper()
	for i, b := range want {
		if got, err := d.Read(i); err != api.OK || !bytes.Equal(got, b) {
			t.Fatalf("Read(%d) = %v, %v, not %v", i, got, err, b)
		}
	}
}

// checkImage expects what the image has, sector by sector.
func checkImage(t *testing.T, d *device.Device, want ...[]byte) {
	t.Helper()
	for i, b := range want {
		if got, err := d.Image(i); err != api.OK || !bytes.Equal(got, b) {
			t.Fatalf("Image(%d) = %v, %v, not %v", i, got, err, b)
		}
	}
}

// checkSame asks a device and a model everything that can be asked.
func checkSame(t *testing.T, d *device.Device, m *model) {
	t.Helper()
	if d.Size() != len(m.image) || d.Out() != m.out || d.Loose() != len(m.loose) {
		t.Fatalf("Size, Out, Loose = %d, %v, %d, not %d, %v, %d", d.Size(), d.Out(), d.Loose(), len(m.image), m.out, len(m.loose))
	}
	places := []int{math.MinInt, -65536, -1, len(m.image), len(m.image) + 1, 65536, 1 << 32, math.MaxInt}
	for i := range m.image {
		places = append(places, i)
	}
	for _, i := range places {
		got, err := d.Read(i)
		if want, code := m.read(i); !bytes.Equal(got, want) || err != code {
			t.Fatalf("Read(%d) = %v, %v, not %v, %v", i, got, err, want, code)
		}
		got, err = d.Image(i)
		if want, code := m.imageOf(i); !bytes.Equal(got, want) || err != code {
			t.Fatalf("Image(%d) = %v, %v, not %v, %v", i, got, err, want, code)
		}
	}
}
