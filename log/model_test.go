package log_test

import (
	"bytes"
	"encoding/binary"
	"hash/crc32"
	"slices"
	"testing"

	"entrepot/api"
	"entrepot/device"
	"entrepot/log"
)

// sealed puts the sum at the beginning of 60 bytes.
func sealed(rest []byte) []byte {
	return append(binary.BigEndian.AppendUint32(nil, crc32.ChecksumIEEE(rest)), rest...)
}

// sectorOf is a sector as the chapter defines it; its size is that of the part.
func sectorOf(gen, index, kind int, part []byte) []byte {
	return sized(gen, index, kind, len(part), part)
}

// sized is a sector that says of its part that it has so many bytes.
func sized(gen, index, kind, size int, part []byte) []byte {
	b := binary.BigEndian.AppendUint32(nil, uint32(gen))
	b = binary.BigEndian.AppendUint32(b, uint32(index))
	b = append(b, byte(kind), byte(size))
	b = append(b, part...)
	b = append(b, make([]byte, 49-len(part))...)
	return sealed(append(b, 165))
}

// sectorsOf are the sectors of a record from an index on.
func sectorsOf(gen, at int, rec []byte) [][]byte {
	if len(rec) <= 49 {
		return [][]byte{sectorOf(gen, at, 1, rec)}
	}
	list := [][]byte{sectorOf(gen, at, 2, rec[:49])}
	rest := rec[49:]
	for ; len(rest) > 49; rest = rest[49:] {
		list = append(list, sectorOf(gen, at+len(list), 3, rest[:49]))
	}
	return append(list, sectorOf(gen, at+len(list), 4, rest))
}

// isValid asks the chapter's conditions of a sector one by one.
func isValid(b []byte, gen, index int) bool {
	kind, size := b[12], int(b[13])
	switch {
	case binary.BigEndian.Uint32(b) != crc32.ChecksumIEEE(b[4:]),
		binary.BigEndian.Uint32(b[4:]) != uint32(gen),
		binary.BigEndian.Uint32(b[8:]) != uint32(index),
		size > 49 || b[63] != 165:
		return false
	case kind == 1:
	case kind == 2 || kind == 3:
		if size != 49 {
			return false
		}
	case kind == 4:
		if size < 1 {
			return false
		}
	default:
		return false
	}
	for _, x := range b[14+size : 63] {
		if x != 0 {
			return false
		}
	}
	return true
}

// contentsOf are the records of the sectors of an area, and the index after them.
func contentsOf(sectors [][]byte, gen int) (records [][]byte, end int) {
	valid := 0
	for valid < len(sectors) && isValid(sectors[valid], gen, valid) {
		valid++
	}
	has := func(i, kind int) bool { return i < valid && int(sectors[i][12]) == kind }
	part := func(i int) []byte { return sectors[i][14 : 14+sectors[i][13]] }
	for {
		i := end
		if has(i, 1) {
			records = append(records, part(i))
			end = i + 1
			continue
		}
		if !has(i, 2) {
			return records, end
		}
		rec := slices.Clone(part(i))
		for i++; has(i, 3); i++ {
			rec = append(rec, part(i)...)
		}
		if !has(i, 4) {
			return records, end
		}
		records = append(records, append(rec, part(i)...))
		end = i + 1
	}
}

// mixed is a record of n bytes that are hardly the same anywhere, and nowhere 0.
func mixed(n, seed int) []byte {
	b := make([]byte, n)
	for i := range b {
		b[i] = byte(1 + (seed*131+i*7+i/49*3)%255)
	}
	return b
}

func newDevice(t *testing.T, n int) *device.Device {
	t.Helper()
	d, err := device.New(n)
	if d == nil || err != api.OK {
		t.Fatalf("New(%d) = %v, %v", n, d, err)
	}
	return d
}

// do expects that a call returns no error.
func do(t *testing.T, err api.Errno) {
	t.Helper()
	if err != api.OK {
		t.Fatal(err)
	}
}

// junk is a sector of no meaning.
func junk(i int) []byte {
	return mixed(64, 1000+i)
}

// newJunk is a device whose sectors have junk, all flushed.
func newJunk(t *testing.T, n int) *device.Device {
	t.Helper()
	d := newDevice(t, n)
	lay(t, d, 0, junks(n))
	do(t, d.Flush())
	return d
}

func junks(n int) [][]byte {
	var list [][]byte
	for i := range n {
		list = append(list, junk(i))
	}
	return list
}

// lay writes sectors by hand.
func lay(t *testing.T, d *device.Device, from int, sectors [][]byte) {
	t.Helper()
	for i, b := range sectors {
		do(t, d.Write(from+i, b))
	}
}

// write expects that a record is written, and returns the index after it.
func write(t *testing.T, d *device.Device, a api.Area, at int, rec []byte) int {
	t.Helper()
	next, err := log.Write(d, a, at, rec)
	if want := at + len(sectorsOf(1, 0, rec)); next != want || err != api.OK {
		t.Fatalf("Write at %d of %d bytes = %d, %v, not %d", at, len(rec), next, err, want)
	}
	return next
}

// checkRead expects what is read from the sectors of a device, all of them.
func checkRead(t *testing.T, d *device.Device, want [][]byte) {
	t.Helper()
	checkAll(t, d, want, d.Read)
}

// checkImage expects what the image of a device has, in all its sectors.
func checkImage(t *testing.T, d *device.Device, want [][]byte) {
	t.Helper()
	checkAll(t, d, want, d.Image)
}

func checkAll(t *testing.T, d *device.Device, want [][]byte, ask func(int) ([]byte, api.Errno)) {
	t.Helper()
	if d.Size() != len(want) {
		t.Fatalf("%d sectors, not %d", d.Size(), len(want))
	}
	for i, b := range want {
		if got, err := ask(i); err != api.OK || !bytes.Equal(got, b) {
			t.Fatalf("sector %d is %v, %v, not %v", i, got, err, b)
		}
	}
}

// checkScan expects the records of an area and the index after them.
func checkScan(t *testing.T, d *device.Device, a api.Area, want [][]byte, end int) {
	t.Helper()
	got, n, err := log.Scan(d, a)
	if n != end || err != api.OK || !slices.EqualFunc(got, want, bytes.Equal) {
		t.Fatalf("Scan(%v) = %d records, %d, %v, not %d records, %d:\n%v\n%v", a, len(got), n, err, len(want), end, got, want)
	}
}

// checkContents expects the contents of an area, as the chapter defines them.
func checkContents(t *testing.T, d *device.Device, a api.Area) {
	t.Helper()
	var sectors [][]byte
	for i := a.From; i < a.To; i++ {
		b, err := d.Read(i)
		do(t, err)
		sectors = append(sectors, b)
	}
	want, end := contentsOf(sectors, a.Gen)
	checkScan(t, d, a, want, end)
}

// blank expects that an area is blanked.
func blank(t *testing.T, d *device.Device, a api.Area) {
	t.Helper()
	do(t, log.Blank(d, a))
}
