package log_test

import (
	"slices"
	"testing"

	"entrepot/api"
	"entrepot/device"
)

// P6.5: records of all lengths, one after the other, are the contents of the area that was blanked, after each of them.
func TestWrittenIsScanned(t *testing.T) {
	const n = 400
	for _, a := range []api.Area{{To: n, Gen: 1}, {From: 37, To: n - 5, Gen: 1<<31 - 1}, {From: 1, To: n, Gen: 0x01020304}} {
		d := newJunk(t, n)
		blank(t, d, a)
		checkScan(t, d, a, nil, 0)
		var records [][]byte
		at := 0
		for i, length := range lengths() {
			if at+len(sectorsOf(1, 0, make([]byte, length))) > a.To-a.From {
				break
			}
			rec := mixed(length, i)
			if i%3 == 0 {
				clear(rec)
			}
			at = write(t, d, a, at, rec)
			records = append(records, rec)
			checkScan(t, d, a, records, at)
		}
		do(t, d.Flush())
		checkScan(t, d, a, records, at)
		checkScan(t, d, api.Area{From: a.From, To: a.From + at, Gen: a.Gen}, records, at)
	}
}

// P6.5: an area that is filled to the last sector, by records of one sector and by one record.
func TestFilled(t *testing.T) {
	a := api.Area{From: 3, To: 11, Gen: 5}
	d := newJunk(t, 12)
	blank(t, d, a)
	var records [][]byte
	for i := range 8 {
		write(t, d, a, i, mixed(i*7, i))
		records = append(records, mixed(i*7, i))
	}
	checkScan(t, d, a, records, 8)
	for _, n := range []int{7*49 + 1, 8 * 49} {
		blank(t, d, a)
		write(t, d, a, 0, mixed(n, 3))
		checkScan(t, d, a, [][]byte{mixed(n, 3)}, 8)
	}
}

// P6.5: a blanked area has nothing of what it had before, even under the same generation.
func TestBlankedAgain(t *testing.T) {
	a := api.Area{From: 1, To: 9, Gen: 5}
	d := newDevice(t, 10)
	for i := range 8 {
		write(t, d, a, i, mixed(9, i))
	}
	blank(t, d, a)
	checkScan(t, d, a, nil, 0)
	write(t, d, a, 0, mixed(60, 1))
	checkScan(t, d, a, [][]byte{mixed(60, 1)}, 2)
}

// P6.5: records that contain whole sectors of the same area, at each offset, are records of these bytes and nothing else.
func TestSectorsInside(t *testing.T) {
	a := api.Area{From: 2, To: 14, Gen: 7}
	for offset := range 100 {
		for index := range 6 {
			rec := mixed(offset, 1)
			for kind := 1; kind <= 4; kind++ {
				rec = append(rec, sectorOf(7, index, kind, mixed(49, kind))...)
			}
			d := newDevice(t, 15)
			blank(t, d, a)
			at := write(t, d, a, 0, []byte("abc"))
			at = write(t, d, a, at, rec)
			checkScan(t, d, a, [][]byte{[]byte("abc"), rec}, at)
			checkScan(t, d, api.Area{From: 3, To: 14, Gen: 7}, nil, 0)
		}
	}
}

// lists are all lists of n bools.
func lists(n int) [][]bool {
	all := [][]bool{nil}
	for range n {
		var longer [][]bool
		for _, l := range all {
			longer = append(longer, append(slices.Clone(l), false), append(slices.Clone(l), true))
		}
		all = longer
	}
	return all
}

// P6.6: whichever sectors of the record that was not flushed a crash keeps, and at whatever byte it tears one, the record is there completely or not at all.
func TestCrash(t *testing.T) {
	a := api.Area{From: 1, To: 9, Gen: 7}
	for _, flushed := range [][][]byte{nil, {mixed(3, 1)}, {mixed(60, 2), nil}} {
		for _, length := range []int{0, 1, 48, 49, 50, 98, 99, 196, 240} {
			rec := mixed(length, 3)
			sectors := len(sectorsOf(1, 0, rec))
			for kept := range sectors + 2 {
				for _, keep := range lists(kept) {
					for _, torn := range []int{0, 1, 4, 13, 14, 32, 62, 63} {
						d, at := crashed(t, a, flushed, rec, keep, torn)
						if kept >= sectors && !slices.Contains(keep[:sectors], false) {
							checkScan(t, d, a, append(slices.Clone(flushed), rec), at+sectors)
						} else {
							checkScan(t, d, a, flushed, at)
						}
					}
				}
			}
		}
	}
}

// P6.6: no beginning of a sector of any kind over zeros is valid.
func TestTorn(t *testing.T) {
	a := api.Area{From: 1, To: 9, Gen: 7}
	for _, length := range []int{0, 1, 2, 25, 48, 49, 50, 97, 98, 99, 147} {
		for _, full := range []bool{false, true} {
			rec := mixed(length, 3)
			if full {
				clear(rec)
			}
			sectors := len(sectorsOf(1, 0, rec))
			for lost := range sectors {
				keep := slices.Repeat([]bool{true}, sectors)
				keep[lost] = false
				for torn := range 64 {
					d, at := crashed(t, a, [][]byte{[]byte("abc")}, rec, keep, torn)
					checkScan(t, d, a, [][]byte{[]byte("abc")}, at)
				}
			}
		}
	}
}

// crashed is a device with an area that had other records, was blanked, and got some that are flushed and one that is not, after a crash; and the index after the flushed ones.
func crashed(t *testing.T, a api.Area, flushed [][]byte, rec []byte, keep []bool, torn int) (*device.Device, int) {
	t.Helper()
	d := newJunk(t, a.To+1)
	for i := range a.To - a.From {
		write(t, d, a, i, mixed(40, 8))
	}
	blank(t, d, a)
	at := 0
	for _, rec := range flushed {
		at = write(t, d, a, at, rec)
	}
	do(t, d.Flush())
	write(t, d, a, at, rec)
	do(t, d.Crash(keep, torn))
	return d, at
}
