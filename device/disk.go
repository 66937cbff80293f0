package device

import (
	"bytes"

	"entrepot/api"
)

// sector is what a sector contains.
type sector [api.SectorSize]byte

// bytes returns what the sector contains as memory of its own.
func (s *sector) bytes() []byte {
	return bytes.Clone(s[:])
}

// write is what was written, and to which sector.
type write struct {
	at int
	b  sector
}

// disk is sectors with the loose writes and without them.
type disk struct {
	// What is read could be found in the image and the loose writes, but those can be many.
	now   []sector
	image []sector
	loose []write
}

// blank returns a disk of zeros.
func blank(n int) disk {
	return disk{now: make([]sector, n), image: make([]sector, n)}
}

func (d *disk) size() int {
	return len(d.image)
}

// has reports whether there is a sector i.
func (d *disk) has(i int) bool {
	return i >= 0 && i < d.size()
}

func (d *disk) write(w write) {
	d.now[w.at] = w.b
	d.loose = append(d.loose, w)
}

// flush makes all loose writes on the image.
func (d *disk) flush() {
	for _, w := range d.loose {
		d.image[w.at] = w.b
	}
	d.loose = nil
}

// crash makes the loose writes that are kept on the image, and then the torn beginning of the last one that is not.
func (d *disk) crash(keep []bool, torn int) {
	lost := -1
	for i, w := range d.loose {
		if i < len(keep) && keep[i] {
			d.image[w.at] = w.b
			continue
		}
		lost = i
	}
	if lost >= 0 {
		w := &d.loose[lost]
		copy(d.image[w.at][:torn], w.b[:])
	}
	d.forget()
}

// forget drops all loose writes, so that the image is what is read.
func (d *disk) forget() {
	for _, w := range d.loose {
		d.now[w.at] = d.image[w.at]
	}
	d.loose = nil
}
