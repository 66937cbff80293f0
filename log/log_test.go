package log_test

import (
	"bytes"
	"math"
	"slices"
	"testing"

	"entrepot/api"
	"entrepot/device"
	"entrepot/log"
)

// P6.1: where an area begins and ends, on devices of several sizes.
func TestCheckPlaces(t *testing.T) {
	for _, n := range []int{1, 2, 4, 65536} {
		d := newDevice(t, n)
		places := []int{math.MinInt, -1 << 32, -n, -2, -1, 0, 1, 2, n / 2, n - 1, n, n + 1, 2 * n, 1<<32 + 1, math.MaxInt}
		for _, from := range places {
			for _, to := range places {
				want := api.ErrRange
				if 0 <= from && from <= to && to <= n {
					want = api.OK
				}
				if err := log.Check(d, api.Area{From: from, To: to, Gen: 7}); err != want {
					t.Errorf("Check of %d to %d, of %d: %v, not %v", from, to, n, err, want)
				}
			}
		}
	}
}

// P6.1: which generations there are.
func TestCheckGen(t *testing.T) {
	d := newDevice(t, 4)
	for _, gen := range []int{1, 2, 7, 255, 256, 1 << 16, 1<<31 - 2, 1<<31 - 1} {
		if err := log.Check(d, api.Area{To: 4, Gen: gen}); err != api.OK {
			t.Errorf("generation %d: %v", gen, err)
		}
	}
	for _, gen := range []int{math.MinInt, -1 << 31, -7, -1, 0, 1 << 31, 1<<32 + 7, math.MaxInt} {
		for _, to := range []int{0, 4} {
			if err := log.Check(d, api.Area{To: to, Gen: gen}); err != api.ErrRange {
				t.Errorf("generation %d: %v", gen, err)
			}
		}
	}
}

// P6.1: a device that is out can be checked, and a check neither counts for a fuse nor changes anything.
func TestCheckWhileOut(t *testing.T) {
	d := newJunk(t, 3)
	do(t, d.Fuse(1))
	for range 3 {
		do(t, log.Check(d, api.Area{To: 3, Gen: 1}))
	}
	do(t, d.Write(1, junk(9)))
	if d.Flush() != api.ErrOut {
		t.Fatal("a fuse of 1")
	}
	do(t, log.Check(d, api.Area{To: 3, Gen: 1}))
	if err := log.Check(d, api.Area{To: 4, Gen: 1}); err != api.ErrRange {
		t.Error(err)
	}
	if !d.Out() || d.Loose() != 1 {
		t.Error("changed by a check")
	}
}

// P6.1 to P6.4: a device that is nil, or that no function made, whatever the area is; and an area that cannot be, whatever else is wrong.
func TestErrorOfCheck(t *testing.T) {
	made := newJunk(t, 4)
	copied := *made
	wrong := []api.Area{{From: 2, To: 5, Gen: 1}, {From: 3, To: 2, Gen: 1}, {From: -1, To: 2, Gen: 1}, {To: 4}, {To: 4, Gen: 1 << 31}}
	areas := append(slices.Clone(wrong), api.Area{}, api.Area{Gen: 1}, api.Area{To: 4, Gen: 1})
	for _, d := range []*device.Device{nil, {}, new(device.Device), &copied} {
		for _, a := range areas {
			checkErrors(t, d, a, api.ErrNil)
		}
	}
	for _, a := range wrong {
		checkErrors(t, made, a, api.ErrRange)
	}
	if made.Loose() != 0 {
		t.Error("written in spite of an error")
	}
	checkRead(t, made, junks(4))
	do(t, made.Fuse(0))
	made.Flush()
	for _, a := range wrong {
		checkErrors(t, made, a, api.ErrRange)
	}
}

// checkErrors expects an error of all functions that take a device.
func checkErrors(t *testing.T, d *device.Device, a api.Area, want api.Errno) {
	t.Helper()
	if err := log.Check(d, a); err != want {
		t.Errorf("Check(%v): %v, not %v", a, err, want)
	}
	if err := log.Blank(d, a); err != want {
		t.Errorf("Blank(%v): %v, not %v", a, err, want)
	}
	for _, at := range []int{-1, 0, 2, 9} {
		for _, n := range []int{0, 49, 500, 1<<20 + 1} {
			if next, err := log.Write(d, a, at, make([]byte, n)); next != 0 || err != want {
				t.Errorf("Write(%v) at %d of %d bytes: %d, %v, not %v", a, at, n, next, err, want)
			}
		}
	}
	if l, n, err := log.Scan(d, a); l != nil || n != 0 || err != want {
		t.Errorf("Scan(%v): %v, %d, %v, not %v", a, l, n, err, want)
	}
}

// P6.1: the number of parts, for all records that may be, and for those that may not.
func TestNeed(t *testing.T) {
	need, left := 1, 49
	for n := range 1<<20 + 1 {
		if n > 0 {
			if left == 0 {
				need, left = need+1, 49
			}
			left--
		}
		if got := log.Need(n); got != need {
			t.Fatalf("Need(%d) = %d, not %d", n, got, need)
		}
	}
	for _, n := range []int{math.MinInt, -1 << 32, -50, -49, -48, -1, 1<<20 + 1, 1<<20 + 49, 1 << 32, math.MaxInt - 47, math.MaxInt} {
		if got := log.Need(n); got != 0 {
			t.Errorf("Need(%d) = %d", n, got)
		}
	}
}

// P6.2: an area is zeros afterwards, flushed, whatever was there; the other sectors are as they were.
func TestBlank(t *testing.T) {
	const n = 6
	for from := range n + 1 {
		for to := from; to <= n; to++ {
			d, want := newJunk(t, n), junks(n)
			lay(t, d, 0, [][]byte{junk(70), junk(71)})
			want[0], want[1] = junk(70), junk(71)
			do(t, log.Blank(d, api.Area{From: from, To: to, Gen: 3}))
			for i := from; i < to; i++ {
				want[i] = make([]byte, 64)
			}
			if d.Loose() != 0 {
				t.Errorf("%d to %d: %d loose", from, to, d.Loose())
			}
			checkRead(t, d, want)
			checkImage(t, d, want)
		}
	}
}

// P6.2: the sectors are written in order, each once, and then there is one flush; the first error ends that.
func TestBlankStops(t *testing.T) {
	const n, from = 5, 1
	for to := from; to <= n; to++ {
		writes := to - from
		for fuse := range writes + 3 {
			d, want := newJunk(t, n), junks(n)
			do(t, d.Fuse(fuse))
			err := log.Blank(d, api.Area{From: from, To: to, Gen: 1})
			done := fuse > writes
			if (err == api.OK) != done || (err == api.ErrOut) == done || d.Out() == done {
				t.Fatalf("%d writes, a fuse of %d: %v, %v", writes, fuse, err, d.Out())
			}
			for i := range min(fuse, writes) {
				want[from+i] = make([]byte, 64)
			}
			if done {
				checkImage(t, d, want)
				continue
			}
			if d.Loose() != min(fuse, writes) {
				t.Fatalf("%d writes, a fuse of %d: %d loose", writes, fuse, d.Loose())
			}
			checkImage(t, d, junks(n))
			do(t, d.Crash(slices.Repeat([]bool{true}, n), 0))
			checkRead(t, d, want)
		}
	}
}

// P6.2: a device that is out from the beginning, also with nothing to write.
func TestBlankWhileOut(t *testing.T) {
	for to := range 3 {
		d := newJunk(t, 2)
		do(t, d.Fuse(0))
		d.Flush()
		if err := log.Blank(d, api.Area{To: to, Gen: 1}); err != api.ErrOut {
			t.Errorf("Blank of %d: %v", to, err)
		}
		checkImage(t, d, junks(2))
	}
}

// lengths are those of records at and about the ends of parts.
func lengths() []int {
	var list []int
	for n := range 160 {
		list = append(list, n)
	}
	return append(list, 195, 196, 197, 244, 245, 246, 489, 490, 491)
}

// P6.3: the sectors that a record of any length leaves at any index of any area, and that nothing else changes.
func TestWrite(t *testing.T) {
	const n = 14
	for i, length := range lengths() {
		gen := []int{1, 7, 0x01020304, 1<<31 - 1}[i%4]
		for _, a := range []api.Area{{To: n, Gen: gen}, {From: 2, To: 13, Gen: gen}} {
			rec := mixed(length, i)
			for at := range a.To - a.From + 1 - log.Need(length) {
				d, want := newJunk(t, n), junks(n)
				next := write(t, d, a, at, rec)
				sectors := sectorsOf(gen, at, rec)
				copy(want[a.From+at:], sectors)
				if next != at+len(sectors) || d.Loose() != len(sectors) {
					t.Fatalf("%d bytes at %d: %d, %d loose", length, at, next, d.Loose())
				}
				checkRead(t, d, want)
				checkImage(t, d, junks(n))
			}
		}
	}
}

// P6.3: the bytes of one sector, written out.
func TestSector(t *testing.T) {
	d := newDevice(t, 1000)
	a := api.Area{From: 10, To: 900, Gen: 0x01020304}
	write(t, d, a, 0x0203, []byte("abc"))
	want := append([]byte{1, 2, 3, 4, 0, 0, 2, 3, 1, 3, 'a', 'b', 'c'}, make([]byte, 46)...)
	want = sealed(append(want, 165))
	if got, err := d.Read(10 + 0x0203); err != api.OK || !bytes.Equal(got, want) || len(want) != 64 {
		t.Errorf("%v, %v, not %v", got, err, want)
	}
	write(t, d, a, 0, make([]byte, 0))
	want = append(append([]byte{1, 2, 3, 4, 0, 0, 0, 0, 1, 0}, make([]byte, 49)...), 165)
	if got, err := d.Read(10); err != api.OK || !bytes.Equal(got, sealed(want)) {
		t.Errorf("%v, %v, not %v", got, err, sealed(want))
	}
}

// P6.3: a record of the most bytes, in an area that it fills, and indices of more than one byte.
func TestLongest(t *testing.T) {
	const need = 21400
	d := newDevice(t, 65536)
	rec := mixed(1<<20, 5)
	for _, a := range []api.Area{{From: 65536 - need, To: 65536, Gen: 2}, {To: 65536, Gen: 3}} {
		at := a.To - a.From - need
		if next, err := log.Write(d, a, at, rec); next != at+need || err != api.OK {
			t.Fatalf("Write at %d = %d, %v", at, next, err)
		}
		for i, want := range sectorsOf(a.Gen, at, rec) {
			if got, _ := d.Read(a.From + at + i); !bytes.Equal(got, want) {
				t.Fatalf("sector %d is %v, not %v", i, got, want)
			}
		}
	}
	a := api.Area{From: 65536 - need, To: 65536, Gen: 4}
	write(t, d, a, 0, rec)
	checkScan(t, d, a, [][]byte{rec}, need)
}

// P6.3: what is wrong, in the order of the errors, and that it changes nothing.
func TestWriteErrors(t *testing.T) {
	d := newJunk(t, 9)
	a := api.Area{From: 2, To: 8, Gen: 7}
	long := make([]byte, 1<<20+1)
	for _, x := range []struct {
		at, n int
		err   api.Errno
	}{
		{math.MinInt, 3, api.ErrRange}, {-1, 3, api.ErrRange}, {7, 0, api.ErrRange}, {8, 3, api.ErrRange},
		{1 << 32, 3, api.ErrRange}, {math.MaxInt, 3, api.ErrRange}, {-1, 1<<20 + 1, api.ErrRange}, {7, 1<<20 + 1, api.ErrRange},
		{0, 1<<20 + 1, api.ErrLong}, {6, 1<<20 + 1, api.ErrLong}, {0, 1 << 20, api.ErrFull}, {6, 1 << 20, api.ErrFull},
		{6, 0, api.ErrFull}, {6, 1, api.ErrFull}, {5, 50, api.ErrFull}, {0, 6*49 + 1, api.ErrFull}, {3, 3*49 + 1, api.ErrFull},
	} {
		for _, out := range []bool{false, true} {
			do(t, d.Crash(nil, 0))
			if out {
				do(t, d.Fuse(0))
				d.Flush()
			}
			if next, err := log.Write(d, a, x.at, long[:x.n]); next != 0 || err != x.err {
				t.Errorf("Write at %d of %d bytes: %d, %v, not %v", x.at, x.n, next, err, x.err)
			}
			if d.Loose() != 0 || d.Out() != out {
				t.Fatalf("changed by Write at %d of %d bytes", x.at, x.n)
			}
		}
	}
	checkImage(t, d, junks(9))
	empty := api.Area{From: 9, To: 9, Gen: 7}
	if next, err := log.Write(d, empty, 0, nil); next != 0 || err != api.ErrFull {
		t.Errorf("an area without sectors: %d, %v", next, err)
	}
	if next, err := log.Write(d, empty, 1, nil); next != 0 || err != api.ErrRange {
		t.Errorf("an area without sectors: %d, %v", next, err)
	}
}

// P6.3: a record fits if exactly as many sectors are left as it needs.
func TestFull(t *testing.T) {
	for left := range 6 {
		for _, n := range lengths() {
			d := newDevice(t, 9)
			a := api.Area{From: 1, To: 8, Gen: 7}
			at := 7 - left
			next, err := log.Write(d, a, at, make([]byte, n))
			if need := len(sectorsOf(1, 0, make([]byte, n))); need > left {
				if next != 0 || err != api.ErrFull || d.Loose() != 0 {
					t.Errorf("%d left, %d bytes: %d, %v", left, n, next, err)
				}
			} else if next != at+need || err != api.OK {
				t.Errorf("%d left, %d bytes: %d, %v", left, n, next, err)
			}
		}
	}
}

// P6.3: the sectors are written in order, each once; the first error of the device ends that, and is returned.
func TestWriteStops(t *testing.T) {
	const n, at = 8, 1
	a := api.Area{From: 1, To: 8, Gen: 9}
	for _, length := range []int{0, 1, 49, 50, 98, 99, 245} {
		rec := mixed(length, 1)
		sectors := sectorsOf(9, at, rec)
		for fuse := range len(sectors) + 2 {
			d, want := newJunk(t, n), junks(n)
			do(t, d.Fuse(fuse))
			next, err := log.Write(d, a, at, rec)
			if fuse >= len(sectors) {
				if next != at+len(sectors) || err != api.OK || d.Out() {
					t.Fatalf("%d bytes, a fuse of %d: %d, %v", length, fuse, next, err)
				}
			} else if next != 0 || err != api.ErrOut || !d.Out() {
				t.Fatalf("%d bytes, a fuse of %d: %d, %v", length, fuse, next, err)
			}
			done := min(fuse, len(sectors))
			if d.Loose() != done {
				t.Fatalf("%d bytes, a fuse of %d: %d loose", length, fuse, d.Loose())
			}
			checkImage(t, d, junks(n))
			do(t, d.Crash(slices.Repeat([]bool{true}, done), 0))
			copy(want[a.From+at:], sectors[:done])
			checkRead(t, d, want)
		}
	}
}

// P6.3: nothing of a record is changed or kept, nor anything behind it.
func TestWrittenBytes(t *testing.T) {
	for _, n := range []int{0, 1, 48, 49, 50, 98, 120} {
		room := mixed(300, n)
		before := slices.Clone(room)
		d := newDevice(t, 8)
		a := api.Area{From: 1, To: 8, Gen: 1}
		write(t, d, a, 0, room[:n])
		if !bytes.Equal(room, before) {
			t.Errorf("%d bytes: the record, or what is behind it, was changed", n)
		}
		clear(room)
		checkScan(t, d, a, [][]byte{before[:n]}, len(sectorsOf(1, 0, before[:n])))
	}
}

// The chapter's examples.
func TestExamples(t *testing.T) {
	for n, want := range map[int]int{0: 1, 49: 1, 50: 2, -1: 0} {
		if got := log.Need(n); got != want {
			t.Errorf("Need(%d) = %d", n, got)
		}
	}
	d := newDevice(t, 4)
	a := api.Area{From: 1, To: 4, Gen: 7}
	fifty := mixed(50, 1)
	do(t, log.Blank(d, a))
	if write(t, d, a, 0, []byte("abc")) != 1 || write(t, d, a, 1, fifty) != 3 {
		t.Error("the indices behind the records")
	}
	if next, err := log.Write(d, a, 3, nil); next != 0 || err != api.ErrFull {
		t.Errorf("Write at 3 = %d, %v", next, err)
	}
	do(t, d.Flush())
	checkScan(t, d, a, [][]byte{[]byte("abc"), fifty}, 3)
	checkScan(t, d, api.Area{From: 1, To: 4, Gen: 8}, nil, 0)
	for _, wrong := range []api.Area{{From: 2, To: 5, Gen: 7}, {From: 1, To: 4}} {
		if err := log.Check(d, wrong); err != api.ErrRange {
			t.Errorf("Check(%v): %v", wrong, err)
		}
	}
	do(t, log.Blank(d, a))
	write(t, d, a, 0, []byte("abc"))
	do(t, d.Flush())
	write(t, d, a, 1, fifty)
	do(t, d.Crash([]bool{true}, 63))
	checkScan(t, d, a, [][]byte{[]byte("abc")}, 1)
}
