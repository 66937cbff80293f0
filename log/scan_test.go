package log_test

import (
	"bytes"
	"slices"
	"testing"

	"entrepot/api"
	"entrepot/log"
)

// P6.4: all sequences of kinds, and of sectors that are not valid, in an area of five sectors.
func TestKinds(t *testing.T) {
	const length = 5
	a := api.Area{From: 1, To: 1 + length, Gen: 7}
	d := newJunk(t, length+2)
	for number := range 6 * 6 * 6 * 6 * 6 {
		rest := number
		for i := range length {
			part := mixed(49, i)
			switch kind := rest % 6; kind {
			case 0:
				lay(t, d, 1+i, [][]byte{make([]byte, 64)})
			case 1, 4:
				lay(t, d, 1+i, [][]byte{sectorOf(7, i, kind, part[:1+i])})
			default:
				lay(t, d, 1+i, [][]byte{sectorOf(7, i, kind, part)})
			}
			rest /= 6
		}
		do(t, d.Flush())
		checkContents(t, d, a)
	}
}

// P6.4: each kind with a part of each size, whole or with a further sector behind it.
func TestSizes(t *testing.T) {
	a := api.Area{To: 3, Gen: 7}
	for kind := range 256 {
		for size := range 256 {
			if kind > 5 && kind < 255 && size > 1 && size < 49 {
				continue
			}
			d := newDevice(t, 3)
			sector := sized(7, 1, kind, size, mixed(min(size, 49), 3))
			for _, ahead := range []int{1, 2} {
				lay(t, d, 0, [][]byte{sectorOf(7, 0, ahead, mixed(49, 1)), sector, sectorOf(7, 2, 4, mixed(9, 2))})
				checkContents(t, d, a)
			}
		}
	}
}

// P6.4: a part of fewer bytes than it has zeros behind it is valid only if these are zeros, and the last byte has to be 165.
func TestBytesAfterThePart(t *testing.T) {
	a := api.Area{To: 2, Gen: 7}
	for _, part := range [][]byte{nil, {5}, mixed(20, 1), mixed(48, 2), mixed(49, 3), {0, 0, 0}} {
		d := newDevice(t, 2)
		good := sectorOf(7, 0, 1, part)
		lay(t, d, 0, [][]byte{good})
		checkScan(t, d, a, [][]byte{part}, 1)
		for at := 14 + len(part); at < 64; at++ {
			for _, x := range []byte{0, 1, 128, 165, 164, 255} {
				wrong := slices.Clone(good[4:])
				wrong[at-4] = x
				lay(t, d, 0, [][]byte{sealed(wrong)})
				if bytes.Equal(sealed(wrong), good) {
					checkScan(t, d, a, [][]byte{part}, 1)
				} else {
					checkScan(t, d, a, nil, 0)
				}
			}
		}
	}
}

// P6.4: a sector of another generation, or of another index, ends the contents, even where only its highest byte is another.
func TestOtherPlaces(t *testing.T) {
	d := newDevice(t, 6)
	for _, gen := range []int{1, 2, 0x01020304, 1<<31 - 1} {
		a := api.Area{From: 1, To: 6, Gen: gen}
		for wrong := range 3 {
			for _, bit := range []int{0, 1, 7, 8, 15, 16, 24, 30, 31} {
				for i := range 3 {
					lay(t, d, 1+i, [][]byte{sectorOf(gen, i, 1, mixed(20, i))})
				}
				lay(t, d, 1+wrong, [][]byte{sectorOf(gen^1<<bit, wrong, 1, mixed(20, 9))})
				checkScan(t, d, a, [][]byte{mixed(20, 0), mixed(20, 1), mixed(20, 2)}[:wrong], wrong)
				lay(t, d, 1+wrong, [][]byte{sectorOf(gen, wrong^1<<bit, 1, mixed(20, 9))})
				checkScan(t, d, a, [][]byte{mixed(20, 0), mixed(20, 1), mixed(20, 2)}[:wrong], wrong)
			}
		}
	}
}

// P6.4: any bit that is changed in any sector of a log, and any byte that is set to 0, takes away the record to which the sector belongs, and all after it.
func TestDamage(t *testing.T) {
	records := [][]byte{mixed(10, 1), mixed(120, 2), nil, mixed(98, 3), mixed(49, 4)}
	a := api.Area{From: 2, To: 11, Gen: 7}
	d := newDevice(t, 12)
	var sectors [][]byte
	var belongs []int
	begins := []int{0}
	for i, rec := range records {
		for _, b := range sectorsOf(7, len(sectors), rec) {
			sectors, belongs = append(sectors, b), append(belongs, i)
		}
		begins = append(begins, len(sectors))
	}
	lay(t, d, 2, sectors)
	checkScan(t, d, a, records, begins[len(records)])
	for i, good := range sectors {
		for at := range good {
			for bit := range 9 {
				bad := slices.Clone(good)
				if bit < 8 {
					bad[at] ^= 1 << bit
				} else if bad[at] == 0 {
					continue
				} else {
					bad[at] = 0
				}
				do(t, d.Write(2+i, bad))
				checkScan(t, d, a, records[:belongs[i]], begins[belongs[i]])
			}
		}
		do(t, d.Write(2+i, good))
	}
	checkScan(t, d, a, records, begins[len(records)])
}

// P6.4: sectors of a log that is elsewhere are not valid where an area begins or ends differently, and only those of the area count.
func TestOtherAreas(t *testing.T) {
	d := newDevice(t, 12)
	records := [][]byte{mixed(60, 1), mixed(5, 2), mixed(150, 3), nil}
	at := 0
	for _, rec := range records {
		at = write(t, d, api.Area{From: 3, To: 11, Gen: 7}, at, rec)
	}
	for from := range 13 {
		for to := from; to <= 12; to++ {
			checkContents(t, d, api.Area{From: from, To: to, Gen: 7})
			if from == 3 && to > 3 {
				continue
			}
			checkScan(t, d, api.Area{From: from, To: to, Gen: 7}, nil, 0)
		}
	}
	for to, want := range map[int]int{3: 0, 4: 0, 5: 1, 6: 2, 7: 2, 9: 2, 10: 3, 11: 4, 12: 4} {
		end := []int{0, 2, 3, 7, 8}[want]
		checkScan(t, d, api.Area{From: 3, To: to, Gen: 7}, records[:want], end)
	}
}

// P6.4: what is not flushed counts as well: what was written last.
func TestScanLoose(t *testing.T) {
	d := newDevice(t, 4)
	a := api.Area{To: 4, Gen: 7}
	write(t, d, a, 0, mixed(10, 1))
	checkScan(t, d, a, [][]byte{mixed(10, 1)}, 1)
	do(t, d.Flush())
	write(t, d, a, 0, mixed(60, 2))
	checkScan(t, d, a, [][]byte{mixed(60, 2)}, 2)
	do(t, d.Write(1, make([]byte, 64)))
	checkScan(t, d, a, nil, 0)
	if d.Loose() != 3 {
		t.Errorf("%d loose", d.Loose())
	}
	do(t, d.Crash(nil, 0))
	checkScan(t, d, a, [][]byte{mixed(10, 1)}, 1)
}

// P6.4: a device that is out, with records and without, also without sectors; scanning does not count for a fuse.
func TestScanWhileOut(t *testing.T) {
	d := newDevice(t, 4)
	write(t, d, api.Area{To: 4, Gen: 7}, 0, mixed(100, 1))
	do(t, d.Fuse(1))
	for range 5 {
		checkScan(t, d, api.Area{To: 4, Gen: 7}, [][]byte{mixed(100, 1)}, 3)
		checkScan(t, d, api.Area{From: 4, To: 4, Gen: 7}, nil, 0)
	}
	do(t, d.Flush())
	d.Flush()
	for from := range 5 {
		for to := from; to <= 4; to++ {
			if l, n, err := log.Scan(d, api.Area{From: from, To: to, Gen: 7}); l != nil || n != 0 || err != api.ErrOut {
				t.Errorf("Scan of %d to %d = %v, %d, %v", from, to, l, n, err)
			}
		}
	}
	if _, _, err := log.Scan(d, api.Area{To: 4}); err != api.ErrRange {
		t.Error(err)
	}
}

// P6.4: what is returned is new memory, that of one record as well as that of another.
func TestScannedBytes(t *testing.T) {
	d := newDevice(t, 12)
	a := api.Area{From: 1, To: 12, Gen: 7}
	records := [][]byte{mixed(20, 1), mixed(49, 2), mixed(60, 3), nil, mixed(200, 4)}
	at := 0
	for _, rec := range records {
		at = write(t, d, a, at, rec)
	}
	for i := range records {
		got, _, _ := log.Scan(d, a)
		room := got[i][:cap(got[i])]
		for j := range room {
			room[j] = 0
		}
		for j, rec := range records {
			if j != i && !bytes.Equal(got[j], rec) {
				t.Fatalf("record %d shares memory with record %d", j, i)
			}
		}
		got = append(got[:0], nil, nil)
		checkScan(t, d, a, records, at)
	}
	before, _, _ := log.Scan(d, a)
	do(t, log.Blank(d, a))
	if !slices.EqualFunc(before, records, bytes.Equal) {
		t.Error("what was returned has changed")
	}
}

// P6.4: sectors that would make up a record of more bytes than there may be are none, although each of them is valid.
func TestTooLong(t *testing.T) {
	const need = 21400
	d := newDevice(t, 65536)
	a := api.Area{To: 65536, Gen: 7}
	chain := func(sectors, last int) {
		t.Helper()
		do(t, d.Write(0, sectorOf(7, 0, 1, []byte("abc"))))
		do(t, d.Write(1, sectorOf(7, 1, 2, mixed(49, 0))))
		for i := 2; i < sectors; i++ {
			do(t, d.Write(i, sectorOf(7, i, 3, mixed(49, 0))))
		}
		do(t, d.Write(sectors, sectorOf(7, sectors, 4, mixed(last, 1))))
		do(t, d.Flush())
	}
	most := bytes.Repeat(mixed(49, 0), need-1)
	chain(need, 25)
	checkScan(t, d, a, [][]byte{[]byte("abc"), append(most, mixed(25, 1)...)}, 1+need)
	for _, x := range [][2]int{{need, 26}, {need, 49}, {need + 1, 1}, {65535, 49}} {
		chain(x[0], x[1])
		checkScan(t, d, a, [][]byte{[]byte("abc")}, 1)
	}
}
