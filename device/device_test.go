package device_test

import (
	"bytes"
	"math"
	"testing"

	"entrepot/api"
	"entrepot/device"
)

// P5.1: which sizes there are.
func TestNew(t *testing.T) {
	for _, n := range []int{math.MinInt, -1 << 32, -65536, -64, -1, 0, 65537, 65536 + 64, 1<<32 + 1, math.MaxInt} {
		if d, err := device.New(n); d != nil || err != api.ErrRange {
			t.Errorf("New(%d) = %v, %v", n, d, err)
		}
	}
	for _, n := range []int{1, 2, 8, 63, 64, 65, 1000} {
		checkSame(t, newDevice(t, n), newModel(n))
	}
	for _, n := range []int{65535, 65536} {
		d := newDevice(t, n)
		if d.Size() != n || d.Out() || d.Loose() != 0 {
			t.Errorf("New(%d): %d, %v, %d", n, d.Size(), d.Out(), d.Loose())
		}
		if b, err := d.Read(n - 1); !bytes.Equal(b, of(0)) || err != api.OK {
			t.Errorf("Read(%d) = %v, %v", n-1, b, err)
		}
		if b, err := d.Read(n); b != nil || err != api.ErrRange {
			t.Errorf("Read(%d) = %v, %v", n, b, err)
		}
	}
}

// P5.1: devices do not know of each other.
func TestTwoDevices(t *testing.T) {
	a, b := newDevice(t, 2), newDevice(t, 3)
	do(t, a.Fuse(1))
	do(t, a.Write(0, of(1)))
	do(t, b.Write(0, of(2)))
	do(t, b.Write(1, of(3)))
	do(t, b.Flush())
	if a.Flush() != api.ErrOut || !a.Out() || b.Out() || a.Loose() != 1 || b.Loose() != 0 {
		t.Error("a fuse of another device")
	}
	checkSectors(t, b, of(2), of(3), of(0))
	checkImage(t, a, of(0), of(0))
	do(t, a.Crash([]bool{true}, 0))
	checkSectors(t, a, of(1), of(0))
	checkSectors(t, b, of(2), of(3), of(0))
}

// P5.1, P5.3: every write is loose until a flush, also the second one of the same bytes to the same sector.
func TestLoose(t *testing.T) {
	d, m := newDevice(t, 3), newModel(3)
	for round := range 3 {
		for i := range 200 {
			b := mixed(byte(i / 2))
			do(t, d.Write(i/3%3, b))
			m.write(i/3%3, b)
			if d.Loose() != i+1 {
				t.Fatalf("%d writes, %d loose", i+1, d.Loose())
			}
			checkSame(t, d, m)
		}
		for range round + 1 {
			do(t, d.Flush())
			m.flush()
			checkSame(t, d, m)
		}
	}
}

// P5.2: what is read is what was written last, loose or not, and the image has it after a flush.
func TestReadAndImage(t *testing.T) {
	d := newDevice(t, 3)
	do(t, d.Write(1, mixed(1)))
	checkSectors(t, d, of(0), mixed(1), of(0))
	checkImage(t, d, of(0), of(0), of(0))
	do(t, d.Write(1, mixed(2)))
	do(t, d.Write(2, mixed(3)))
	do(t, d.Write(1, mixed(4)))
	checkSectors(t, d, of(0), mixed(4), mixed(3))
	checkImage(t, d, of(0), of(0), of(0))
	do(t, d.Flush())
	checkSectors(t, d, of(0), mixed(4), mixed(3))
	checkImage(t, d, of(0), mixed(4), mixed(3))
	do(t, d.Write(1, of(0)))
	checkSectors(t, d, of(0), of(0), mixed(3))
	checkImage(t, d, of(0), mixed(4), mixed(3))
}

// P5.2: Image answers while the device is out, Read does not, whether there is such a sector or not.
func TestReadWhileOut(t *testing.T) {
	d, m := newDevice(t, 2), newModel(2)
	do(t, d.Write(0, of(1)))
	m.write(0, of(1))
	do(t, d.Flush())
	m.flush()
	do(t, d.Write(0, of(2)))
	m.write(0, of(2))
	do(t, d.Fuse(0))
	m.setFuse(0)
	checkSame(t, d, m)
	if d.Out() || d.Write(1, of(3)) != api.ErrOut || m.write(1, of(3)) != api.ErrOut || !d.Out() {
		t.Error("a write with a fuse of 0")
	}
	for range 2 {
		checkSame(t, d, m)
	}
	for _, i := range []int{math.MinInt, -1, 0, 1, 2, math.MaxInt} {
		if b, err := d.Read(i); b != nil || err != api.ErrOut {
			t.Errorf("Read(%d) = %v, %v", i, b, err)
		}
	}
	if b, err := d.Image(2); b != nil || err != api.ErrRange {
		t.Errorf("Image(2) = %v, %v", b, err)
	}
}

// P5.3: a sector has 64 bytes, and there is none below 0 or from the size on.
func TestWrongWrites(t *testing.T) {
	d, m := newDevice(t, 3), newModel(3)
	do(t, d.Write(1, of(1)))
	m.write(1, of(1))
	for n := range 200 {
		if n == 64 {
			continue
		}
		if err := d.Write(1, bytes.Repeat([]byte{2}, n)); err != api.ErrArg {
			t.Errorf("%d bytes: %v", n, err)
		}
	}
	for _, b := range [][]byte{nil, {}, of(2)[:63], make([]byte, 65), make([]byte, 128), make([]byte, 1<<16+64)} {
		for i := range 3 {
			if err := d.Write(i, b); err != api.ErrArg {
				t.Errorf("%d bytes: %v", len(b), err)
			}
		}
	}
	for _, i := range []int{math.MinInt, -1 << 32, -3, -1, 3, 4, 65536, 1 << 32, math.MaxInt} {
		for _, b := range [][]byte{nil, of(2), make([]byte, 65)} {
			if err := d.Write(i, b); err != api.ErrRange {
				t.Errorf("Write(%d) of %d bytes: %v", i, len(b), err)
			}
		}
	}
	checkSame(t, d, m)
}

// P5.3: a write that is wrong neither counts for the fuse nor puts the device out; once it is out, that is what is returned.
func TestErrorsAndFuse(t *testing.T) {
	d := newDevice(t, 2)
	for n := range 3 {
		do(t, d.Fuse(n))
		for range 3 {
			if d.Write(2, of(1)) != api.ErrRange || d.Write(-1, nil) != api.ErrRange || d.Write(0, nil) != api.ErrArg || d.Write(1, make([]byte, 65)) != api.ErrArg {
				t.Fatal("a wrong write with a fuse")
			}
		}
		if d.Out() {
			t.Fatal("out by wrong writes")
		}
		for range n {
			do(t, d.Write(1, of(4)))
		}
		if d.Write(1, of(5)) != api.ErrOut || !d.Out() || d.Loose() != n {
			t.Fatalf("a fuse of %d: %v, %d", n, d.Out(), d.Loose())
		}
		for range 2 {
			if d.Write(2, of(1)) != api.ErrOut || d.Write(0, nil) != api.ErrOut || d.Write(0, of(1)) != api.ErrOut || d.Flush() != api.ErrOut || d.Fuse(9) != api.ErrOut || d.Fuse(-1) != api.ErrOut {
				t.Fatal("a call while out")
			}
		}
		if !d.Out() || d.Loose() != n {
			t.Fatalf("after calls while out: %v, %d", d.Out(), d.Loose())
		}
		do(t, d.Crash(nil, 0))
	}
}

// P5.3: what a refused flush would have made stays loose.
func TestRefusedFlush(t *testing.T) {
	d, m := newDevice(t, 2), newModel(2)
	do(t, d.Write(0, of(1)))
	do(t, d.Write(1, of(2)))
	m.write(0, of(1))
	m.write(1, of(2))
	do(t, d.Fuse(0))
	m.setFuse(0)
	if d.Flush() != api.ErrOut || m.flush() != api.ErrOut {
		t.Error("a flush with a fuse of 0")
	}
	checkSame(t, d, m)
	do(t, d.Crash([]bool{false, true}, 0))
	checkSectors(t, d, of(0), of(2))
}

// P5.3: a write keeps nothing of the bytes and changes nothing of them.
func TestWrittenBytes(t *testing.T) {
	room := append(mixed(1), 9, 8, 7)
	d := newDevice(t, 2)
	do(t, d.Write(0, room[:64]))
	if !bytes.Equal(room, append(mixed(1), 9, 8, 7)) {
		t.Errorf("the bytes were changed: %v", room)
	}
	clear(room)
	checkSectors(t, d, mixed(1), of(0))
	do(t, d.Flush())
	checkImage(t, d, mixed(1), of(0))
	copy(room, mixed(2))
	do(t, d.Write(1, room[:64]))
	clear(room)
	do(t, d.Crash([]bool{true}, 0))
	checkSectors(t, d, mixed(1), mixed(2))
}

// P5.2: what is read is new memory each time, and does not change later.
func TestReadBytes(t *testing.T) {
	d := newDevice(t, 1)
	do(t, d.Write(0, mixed(1)))
	for range 2 {
		for _, ask := range []func(int) ([]byte, api.Errno){d.Read, d.Image} {
			b, _ := ask(0)
			before := bytes.Clone(b)
			clear(b[:cap(b)])
			if again, _ := ask(0); !bytes.Equal(again, before) {
				t.Fatalf("what was returned is shared: %v, not %v", again, before)
			}
		}
		do(t, d.Flush())
	}
	checkSectors(t, d, mixed(1))
	read, _ := d.Read(0)
	image, _ := d.Image(0)
	do(t, d.Write(0, mixed(2)))
	do(t, d.Flush())
	if !bytes.Equal(read, mixed(1)) || !bytes.Equal(image, mixed(1)) {
		t.Errorf("what was returned has changed: %v, %v", read, image)
	}
}

// P5.1 to P5.4: a device that New did not return.
func TestInvalid(t *testing.T) {
	used, out := newDevice(t, 2), newDevice(t, 2)
	do(t, used.Write(0, of(1)))
	do(t, out.Write(0, of(1)))
	do(t, out.Fuse(0))
	out.Flush()
	copied, ended := *used, *out
	for i, d := range []*device.Device{nil, {}, new(device.Device), &copied, &ended} {
		if d.Size() != 0 || d.Out() || d.Loose() != 0 {
			t.Errorf("%d: %d, %v, %d", i, d.Size(), d.Out(), d.Loose())
		}
		for _, at := range []int{-1, 0, 1, 2} {
			if b, err := d.Read(at); b != nil || err != api.ErrNil {
				t.Errorf("%d: Read = %v, %v", i, b, err)
			}
			if b, err := d.Image(at); b != nil || err != api.ErrNil {
				t.Errorf("%d: Image = %v, %v", i, b, err)
			}
			if d.Write(at, of(2)) != api.ErrNil || d.Write(at, nil) != api.ErrNil {
				t.Errorf("%d: Write(%d)", i, at)
			}
		}
		if d.Fuse(1) != api.ErrNil || d.Fuse(-1) != api.ErrNil || d.Flush() != api.ErrNil {
			t.Errorf("%d: Fuse, Flush", i)
		}
		for _, torn := range []int{-1, 0, 5, 64} {
			if d.Crash([]bool{true}, torn) != api.ErrNil || d.Crash(nil, torn) != api.ErrNil {
				t.Errorf("%d: Crash(.., %d)", i, torn)
			}
		}
	}
	checkSectors(t, used, of(1), of(0))
	checkImage(t, used, of(0), of(0))
	if used.Loose() != 1 || !out.Out() || out.Loose() != 1 {
		t.Error("a copy changed the device")
	}
	checkImage(t, out, of(0), of(0))
}

// P5.2, P5.3: a full device, every sector of which is loose many times, is read as quickly as an empty one.
func TestGreatestDevice(t *testing.T) {
	const n = 65536
	d := newDevice(t, n)
	b := mixed(0)
	for i := range 4 * n {
		b[0], b[1], b[63] = byte(i), byte(i>>8), byte(i>>16)
		do(t, d.Write(i%n, b))
	}
	if d.Loose() != 4*n {
		t.Fatalf("%d loose", d.Loose())
	}
	b[63] = 3
	check := func(ask func(int) ([]byte, api.Errno)) {
		t.Helper()
		for i := range n {
			b[0], b[1] = byte(i), byte(i>>8)
			if got, err := ask(i); err != api.OK || !bytes.Equal(got, b) {
				t.Fatalf("sector %d: %v, %v", i, got, err)
			}
		}
	}
	check(d.Read)
	do(t, d.Flush())
	check(d.Read)
	check(d.Image)
}
