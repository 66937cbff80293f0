package device_test

import (
	"math"
	"slices"
	"testing"

	"entrepot/api"
	"entrepot/device"
)

// P5.3, P5.4: a fuse of n lets n writes and flushes be made, whichever of the two each one is.
func TestFuse(t *testing.T) {
	for n := range 6 {
		for which := range 1 << (n + 1) {
			d, m := newDevice(t, 2), newModel(2)
			do(t, d.Fuse(n))
			m.setFuse(n)
			for i := range n + 1 {
				var err api.Errno
				if which>>i&1 == 0 {
					err = d.Write(i%2, of(byte(i+1)))
					m.write(i%2, of(byte(i+1)))
				} else {
					err = d.Flush()
					m.flush()
				}
				if (err == api.OK) != (i < n) || d.Out() != (i == n) {
					t.Fatalf("a fuse of %d, %b: %d: %v, %v", n, which, i, err, d.Out())
				}
				checkSame(t, d, m)
			}
		}
	}
}

// P5.4: reading and asking does not count for a fuse, and a device is out only when it refuses.
func TestFuseAndReading(t *testing.T) {
	d := newDevice(t, 2)
	do(t, d.Fuse(1))
	for range 10 {
		checkSectors(t, d, of(0), of(0))
		checkImage(t, d, of(0), of(0))
	}
	do(t, d.Flush())
	for range 10 {
		checkSectors(t, d, of(0), of(0))
		if d.Out() || d.Size() != 2 || d.Loose() != 0 {
			t.Fatal("out before anything was refused")
		}
	}
	if d.Flush() != api.ErrOut || !d.Out() {
		t.Error("a fuse that is used up")
	}
}

// P5.4: a fuse takes the place of any other one, a wrong one of none.
func TestAnotherFuse(t *testing.T) {
	for _, first := range []int{0, 1, 2, 5, math.MaxInt} {
		for _, second := range []int{0, 1, 3, 6} {
			d := newDevice(t, 1)
			do(t, d.Fuse(first))
			if first > 1 {
				do(t, d.Flush())
			}
			do(t, d.Fuse(second))
			for _, n := range []int{-1, -2, math.MinInt} {
				if err := d.Fuse(n); err != api.ErrArg {
					t.Fatalf("Fuse(%d): %v", n, err)
				}
			}
			for range second {
				do(t, d.Write(0, of(1)))
			}
			if d.Write(0, of(2)) != api.ErrOut {
				t.Errorf("a fuse of %d after one of %d", second, first)
			}
		}
	}
}

// P5.3, P5.4: without a fuse, after a wrong one, and with the greatest one, everything is let through.
func TestNoFuse(t *testing.T) {
	d := newDevice(t, 1)
	through := func() {
		t.Helper()
		for range 100 {
			do(t, d.Write(0, of(1)))
			do(t, d.Flush())
		}
	}
	through()
	if d.Fuse(-1) != api.ErrArg {
		t.Error("Fuse(-1)")
	}
	through()
	do(t, d.Fuse(math.MaxInt))
	through()
}

// P5.4: a crash takes the fuse away, whether the device is out or not.
func TestCrashAndFuse(t *testing.T) {
	for n := range 4 {
		for tries := range n + 2 {
			d := newDevice(t, 1)
			do(t, d.Fuse(n))
			for range tries {
				d.Write(0, of(1))
			}
			if d.Out() != (tries > n) || d.Loose() != min(tries, n) {
				t.Fatalf("a fuse of %d, %d writes: %v, %d", n, tries, d.Out(), d.Loose())
			}
			do(t, d.Crash(nil, 0))
			if d.Out() || d.Loose() != 0 {
				t.Fatalf("after a crash: %v, %d", d.Out(), d.Loose())
			}
			for range 20 {
				do(t, d.Write(0, of(2)))
				do(t, d.Flush())
			}
			do(t, d.Fuse(1))
			do(t, d.Flush())
			if d.Flush() != api.ErrOut {
				t.Fatal("a fuse after a crash")
			}
		}
	}
}

// written is a device of 3 sectors with an image, and loose writes to some sectors, and its model.
func written(t *testing.T, places ...int) (*device.Device, *model) {
	t.Helper()
	d, m := newDevice(t, 3), newModel(3)
	for i := range 3 {
		do(t, d.Write(i, mixed(byte(100+i))))
		m.write(i, mixed(byte(100+i)))
	}
	do(t, d.Flush())
	m.flush()
	for i, at := range places {
		do(t, d.Write(at, mixed(byte(i+1))))
		m.write(at, mixed(byte(i+1)))
	}
	return d, m
}

// lists are all lists of n bools.
func lists(n int) [][]bool {
	all := [][]bool{nil}
	for range n {
		var longer [][]bool
		for _, l := range all {
			longer = append(longer, append(slices.Clone(l), false), append(slices.Clone(l), true))
		}
		all = longer
	}
	return all
}

// P5.4: every way to keep some of four loose writes, with lists that are too short and too long, and torn at every byte.
func TestCrash(t *testing.T) {
	for _, places := range [][]int{nil, {1}, {0, 1}, {0, 0, 0}, {0, 1, 0, 2}, {2, 2, 1, 1}} {
		for n := range len(places) + 3 {
			for _, keep := range lists(n) {
				for _, torn := range []int{0, 1, 2, 31, 62, 63} {
					d, m := written(t, places...)
					before := slices.Clone(keep)
					do(t, d.Crash(keep, torn))
					m.crash(keep, torn)
					checkSame(t, d, m)
					if !slices.Equal(keep, before) {
						t.Fatalf("the list was changed: %v, not %v", keep, before)
					}
				}
			}
		}
	}
	for n := range 64 {
		d, _ := written(t, 1, 2)
		do(t, d.Crash([]bool{true, false}, n))
		checkSectors(t, d, mixed(100), mixed(1), torn(mixed(2), n, mixed(102)))
		checkImage(t, d, mixed(100), mixed(1), torn(mixed(2), n, mixed(102)))
	}
}

// P5.4: what is torn is the last one that is not kept, on top of all that are kept, also of those behind it.
func TestTorn(t *testing.T) {
	d, _ := written(t, 0, 0, 0)
	do(t, d.Crash([]bool{true, false, true}, 7))
	checkSectors(t, d, torn(mixed(2), 7, mixed(3)))
	d, _ = written(t, 0, 0, 0)
	do(t, d.Crash([]bool{false, false, true}, 7))
	checkSectors(t, d, torn(mixed(2), 7, mixed(3)))
	d, _ = written(t, 0, 1)
	do(t, d.Crash(nil, 63))
	checkSectors(t, d, mixed(100), torn(mixed(2), 63, mixed(101)))
	d, _ = written(t, 0, 1, 2)
	do(t, d.Crash([]bool{true}, 1))
	checkSectors(t, d, mixed(1), mixed(101), torn(mixed(3), 1, mixed(102)))
	d, _ = written(t, 0, 1)
	do(t, d.Crash([]bool{true, true, false}, 63))
	checkSectors(t, d, mixed(1), mixed(2), mixed(102))
}

// P5.4: a crash that cannot be changes nothing.
func TestWrongCrash(t *testing.T) {
	for _, torn := range []int{math.MinInt, -64, -1, 64, 65, 128, 256, 1 << 32, math.MaxInt} {
		for _, keep := range [][]bool{nil, {true, true}, {false, true}} {
			d, m := written(t, 0, 1)
			do(t, d.Fuse(1))
			m.setFuse(1)
			for range 3 {
				if err := d.Crash(keep, torn); err != api.ErrArg {
					t.Fatalf("Crash(%v, %d): %v", keep, torn, err)
				}
				checkSame(t, d, m)
				d.Write(2, of(9))
				m.write(2, of(9))
			}
			if !d.Out() || d.Loose() != 3 {
				t.Fatalf("after Crash(%v, %d): %v, %d", keep, torn, d.Out(), d.Loose())
			}
		}
	}
}

// P5.4: a crash of a device with nothing loose, and one after another.
func TestCrashAgain(t *testing.T) {
	d, m := written(t)
	for _, keep := range [][]bool{nil, {true}, {false, true}, make([]bool, 1000)} {
		do(t, d.Crash(keep, 63))
		checkSame(t, d, m)
	}
	do(t, d.Write(0, mixed(1)))
	do(t, d.Crash(nil, 10))
	do(t, d.Crash([]bool{true}, 63))
	checkSectors(t, d, torn(mixed(1), 10, mixed(100)), mixed(101), mixed(102))
	do(t, d.Flush())
	checkImage(t, d, torn(mixed(1), 10, mixed(100)), mixed(101), mixed(102))
}

// step does one thing with a device and a model, and expects the same of both.
func step(t *testing.T, d *device.Device, m *model, what, i int) {
	t.Helper()
	b := mixed(byte(16*i + what))
	var got, want api.Errno
	switch what {
	case 0:
		got, want = d.Write(0, b), m.write(0, b)
	case 1:
		got, want = d.Write(1, b), m.write(1, b)
	case 2:
		got, want = d.Write(2, b), m.write(2, b)
	case 3:
		got, want = d.Flush(), m.flush()
	case 4:
		got, want = d.Fuse(i%3), m.setFuse(i%3)
	case 5:
		got, want = d.Fuse(2-i%3), m.setFuse(2-i%3)
	case 6:
		got, want = d.Crash([]bool{false, true, false}, 9), m.crash([]bool{false, true, false}, 9)
	case 7:
		got, want = d.Crash([]bool{true, false, true, true}, 40), m.crash([]bool{true, false, true, true}, 40)
	}
	if got != want {
		t.Fatalf("step %d, %d: %v, not %v", i, what, got, want)
	}
	checkSame(t, d, m)
}

// P5.1 to P5.4: all sequences of six calls, on two sectors.
func TestSequences(t *testing.T) {
	length := 6
	if testing.Short() {
		length = 4
	}
	for number := range 1 << (3 * length) {
		d, m := newDevice(t, 2), newModel(2)
		for i := range length {
			step(t, d, m, number>>(3*i)&7, i)
		}
	}
}

// P5.5: what was flushed is there after any crash, where nothing that was written later was kept or torn.
func TestFlushed(t *testing.T) {
	places := []int{0, 2, 0, 2, 0}
	for n := range 7 {
		for _, keep := range lists(n) {
			for _, size := range []int{0, 1, 63} {
				d, _ := written(t, places...)
				do(t, d.Crash(keep, size))
				want := [][]byte{mixed(100), mixed(101), mixed(102)}
				lost := -1
				for i, at := range places {
					if i < n && keep[i] {
						want[at] = mixed(byte(i + 1))
					} else {
						lost = i
					}
				}
				if lost >= 0 {
					at := places[lost]
					want[at] = torn(mixed(byte(lost+1)), size, want[at])
				}
				checkSectors(t, d, want...)
				checkImage(t, d, want...)
			}
		}
	}
}

// P5.5: a crash that keeps all is a flush; one that keeps none, with nothing torn, leaves the image.
func TestCrashIsAFlush(t *testing.T) {
	for _, places := range [][]int{nil, {0}, {0, 1, 2}, {0, 0, 1, 0, 1}, {2, 1, 2, 1, 2, 2}} {
		for more := range 3 {
			for _, size := range []int{0, 5, 63} {
				crashed, _ := written(t, places...)
				flushed, _ := written(t, places...)
				lost, _ := written(t, places...)
				do(t, crashed.Crash(slices.Repeat([]bool{true}, len(places)+more), size))
				do(t, flushed.Flush())
				do(t, lost.Crash(make([]bool, more*len(places)), 0))
				for i := range 3 {
					want, _ := flushed.Image(i)
					got, _ := crashed.Image(i)
					if !slices.Equal(got, want) {
						t.Fatalf("%v: sector %d after a crash that keeps all: %v, not %v", places, i, got, want)
					}
				}
				checkSectors(t, lost, mixed(100), mixed(101), mixed(102))
				checkImage(t, lost, mixed(100), mixed(101), mixed(102))
				if crashed.Loose() != 0 || flushed.Loose() != 0 || lost.Loose() != 0 {
					t.Fatal("loose writes after a crash or a flush")
				}
			}
		}
	}
}

// The chapter's examples.
func TestExamples(t *testing.T) {
	d := newDevice(t, 2)
	do(t, d.Write(0, of(1)))
	checkSectors(t, d, of(1))
	checkImage(t, d, of(0))
	if d.Loose() != 1 {
		t.Errorf("%d loose", d.Loose())
	}
	do(t, d.Flush())
	checkImage(t, d, of(1))
	do(t, d.Write(0, of(2)))
	do(t, d.Write(1, of(3)))
	do(t, d.Crash([]bool{false, true}, 5))
	checkSectors(t, d, torn(of(2), 5, of(1)), of(3))
	if d.Loose() != 0 {
		t.Errorf("%d loose", d.Loose())
	}
	do(t, d.Fuse(1))
	do(t, d.Write(0, of(4)))
	if d.Flush() != api.ErrOut || !d.Out() {
		t.Error("a flush after a fuse of 1")
	}
	if b, err := d.Read(0); b != nil || err != api.ErrOut {
		t.Errorf("Read(0) = %v, %v", b, err)
	}
	checkImage(t, d, torn(of(2), 5, of(1)))
	do(t, d.Crash([]bool{true}, 0))
	checkSectors(t, d, of(4), of(3))
	_, read := d.Read(2)
	_, made := device.New(0)
	for i, err := range []api.Errno{read, d.Write(2, of(1)), made} {
		if err != api.ErrRange {
			t.Errorf("%d: %v", i, err)
		}
	}
	for i, err := range []api.Errno{d.Write(0, nil), d.Crash(nil, 64), d.Fuse(-1)} {
		if err != api.ErrArg {
			t.Errorf("%d: %v", i, err)
		}
	}
}
