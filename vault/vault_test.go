package vault_test

import (
	"bytes"
	"slices"
	"testing"

	"entrepot/api"
	"entrepot/device"
	"entrepot/vault"
)

// invalid are devices that no function made.
func invalid(t *testing.T) []*device.Device {
	t.Helper()
	copied := *newDevice(t, 8)
	return []*device.Device{nil, {}, new(device.Device), &copied}
}

// P7.1, P7.2: a device that is nil, or that no function made.
func TestInvalidDevice(t *testing.T) {
	for i, d := range invalid(t) {
		if err := vault.Format(d); err != api.ErrNil {
			t.Errorf("Format of %d: %v", i, err)
		}
		if v, err := vault.Open(d); v != nil || err != api.ErrNil {
			t.Errorf("Open of %d: %v, %v", i, v, err)
		}
	}
}

// P7.1, P7.2: a device of fewer than 8 sectors, whether it is out or not; nothing is done to it.
func TestSmallDevice(t *testing.T) {
	for n := 1; n < 8; n++ {
		for _, d := range []*device.Device{newJunk(t, n), newOut(t, n)} {
			want := imageOf(t, d)
			if err := vault.Format(d); err != api.ErrRange {
				t.Errorf("Format of %d sectors: %v", n, err)
			}
			if v, err := vault.Open(d); v != nil || err != api.ErrRange {
				t.Errorf("Open of %d sectors: %v, %v", n, v, err)
			}
			if d.Loose() != 0 || !sameRecords(imageOf(t, d), want) {
				t.Errorf("%d sectors are changed", n)
			}
		}
	}
}

// P7.1: what Format does, and in which order, on devices of odd and even sizes.
func TestFormatOps(t *testing.T) {
	for _, n := range []int{8, 9, 10, 11, 12, 13, 30} {
		checkOps(t, func() (*device.Device, func() api.Errno) {
			d := newJunk(t, n)
			return d, func() api.Errno { return vault.Format(d) }
		}, formatOps(n))
	}
}

// P7.1: what Format does to a vault that has records: it is one without any.
func TestFormatAgain(t *testing.T) {
	made := func() (*device.Device, func() api.Errno) {
		d, v := newVault(t, 12, texts("a", "b")...)
		do(t, v.Append(mixed(100, 1)))
		return d, func() api.Errno { return vault.Format(d) }
	}
	checkOps(t, made, formatOps(12))
	d, format := made()
	do(t, format())
	checkVault(t, open(t, d), 2, 5)
}

// P7.1, P7.2: a device that is out.
func TestOutDevice(t *testing.T) {
	d := newOut(t, 8)
	if err := vault.Format(d); err != api.ErrOut {
		t.Error(err)
	}
	// Nothing tells that neither superblock is right: they cannot be read.
	if v, err := vault.Open(d); v != nil || err != api.ErrOut {
		t.Error(v, err)
	}
}

// P7.1, P7.2: the greatest device.
func TestGreatest(t *testing.T) {
	const n, h = 65536, 32767
	d := newDevice(t, n)
	do(t, vault.Format(d))
	v := open(t, d)
	checkVault(t, v, 2, h)
	rec := mixed(1<<20, 1)
	do(t, v.Append(rec))
	checkVault(t, v, 2, h-21400, rec)
	if err := v.Append(rec); err != api.ErrFull {
		t.Error(err)
	}
	do(t, v.Append(rec[:49*(h-21400)]))
	checkVault(t, open(t, d), 3, 0, rec, rec[:49*(h-21400)])
	m := &model{d: newDevice(t, n), n: n}
	do(t, m.format())
	do(t, m.open())
	do(t, m.append(rec))
	do(t, m.append(rec[:49*(h-21400)]))
	do(t, m.open())
	checkDevices(t, d, m.d)
}

// P7.2: a device without a vault.
func TestOpenNothing(t *testing.T) {
	for _, d := range []*device.Device{newDevice(t, 8), newJunk(t, 8), newDevice(t, 30)} {
		want := imageOf(t, d)
		if v, err := vault.Open(d); v != nil || err != api.ErrBroken {
			t.Error(v, err)
		}
		if d.Loose() != 0 || !sameRecords(imageOf(t, d), want) {
			t.Error("changed by an Open in vain")
		}
	}
}

// wrongHalves are superblocks that are not right on a device of n sectors, all but the first ones with their right sums.
func wrongHalves(n uint32) [][]byte {
	zeros := make([]byte, 19)
	right := half(6, n, 7, zeros)
	list := [][]byte{make([]byte, 32), bytes.Repeat([]byte{7}, 32), append(make([]byte, 4), right[4:]...), slices.Concat([]byte{right[3], right[2], right[1], right[0]}, right[4:])}
	for _, gen := range []uint32{0, 1 << 31, 1<<31 + 6, 1<<32 - 1} {
		list = append(list, half(gen, n, 7, zeros))
	}
	for _, other := range []uint32{0, n - 1, n + 1, n + 2, n << 24, n<<8 + n, n + 1<<31} {
		list = append(list, half(6, other, 7, zeros))
	}
	for _, mark := range []byte{0, 6, 8, 165, 255} {
		list = append(list, half(6, n, mark, zeros))
	}
	for i := range zeros {
		b := slices.Clone(zeros)
		b[i] = 1
		list = append(list, half(6, n, 7, b))
	}
	return list
}

// layVault writes by hand what a vault has: two sectors of superblocks, and logs under two generations.
func layVault(t *testing.T, n int, sectors [2][]byte, gens [2]int, logs [2][][]byte) *device.Device {
	t.Helper()
	d := newJunk(t, n)
	for i, b := range sectors {
		do(t, d.Write(i, b))
	}
	for i, gen := range gens {
		do(t, run(d, recordOps(n, gen, 0, logs[i])))
	}
	return d
}

// P7.2: superblocks that are not right do not count, wherever they are; if there is no other one, there is no vault.
func TestWrongSuperblocks(t *testing.T) {
	const n = 8
	right := superblockOf(6, n)
	wrong := [][]byte{slices.Concat(right[:32], make([]byte, 32)), slices.Concat(make([]byte, 32), right[32:]), slices.Concat(right[:32], superblockOf(4, n)[:32])}
	for _, b := range wrongHalves(n) {
		wrong = append(wrong, bytes.Repeat(b, 2))
	}
	for i := range right {
		for bit := range 8 {
			b := slices.Clone(right)
			b[i] ^= 1 << bit
			wrong = append(wrong, b)
		}
	}
	for i, b := range wrong {
		for _, sectors := range [][2][]byte{{b, superblockOf(5, n)}, {superblockOf(5, n), b}} {
			d := layVault(t, n, sectors, [2]int{5, 6}, [2][][]byte{texts("five"), texts("six")})
			checkVault(t, open(t, d), 6, 2, []byte("five"))
		}
		for _, sectors := range [][2][]byte{{b, b}, {b, make([]byte, 64)}, {make([]byte, 64), b}} {
			d := layVault(t, n, sectors, [2]int{5, 6}, [2][][]byte{texts("five"), texts("six")})
			if v, err := vault.Open(d); v != nil || err != api.ErrBroken {
				t.Errorf("superblock %d is taken for a right one: %v, %v", i, v, err)
			}
		}
	}
}

// P7.2: of two right superblocks the one with the greater generation counts, in whichever sector it is; its log is read.
func TestGreaterGeneration(t *testing.T) {
	const n = 10
	for _, gens := range [][2]int{{1, 2}, {2, 3}, {5, 8}, {255, 256}, {256, 511}, {65535, 65536}, {1 << 24, 1<<24 + 255}, {1, 1<<31 - 4}, {1<<31 - 3, 1<<31 - 2}} {
		least, most := superblockOf(gens[0], n), superblockOf(gens[1], n)
		for _, sectors := range [][2][]byte{{least, most}, {most, least}, {make([]byte, 64), most}, {most, mixed(64, 1)}, {most, most}} {
			logs := [2][][]byte{texts("old"), texts("a", "bc")}
			if gens[0]%2 == gens[1]%2 {
				logs[0] = nil
			}
			d := layVault(t, n, sectors, gens, logs)
			checkVault(t, open(t, d), gens[1]+1, 2, logs[1]...)
		}
	}
}

// P7.2: the number of sectors belongs to the superblock: a smaller or greater device has no vault of the same sectors.
func TestOtherSize(t *testing.T) {
	for _, n := range []int{8, 9, 10, 11, 256, 263, 264, 65535, 65536} {
		for _, other := range []int{n - 1, n, n + 1, n + 256} {
			if other < 8 || other > 65536 {
				continue
			}
			d := newDevice(t, other)
			do(t, run(d, superblockOps(n, 2)))
			v, err := vault.Open(d)
			if want := other == n; (err == api.OK) != want || (v != nil) != want || !want && err != api.ErrBroken {
				t.Errorf("a superblock for %d sectors on a device of %d: %v, %v", n, other, v, err)
			}
		}
	}
}

// P7.2: what Open does, and in which order.
func TestOpenOps(t *testing.T) {
	for _, n := range []int{8, 9, 14, 15} {
		for gen := 1; gen < 5; gen++ {
			for _, l := range [][][]byte{nil, texts("abc"), texts("", "x", ""), {mixed(98, 1), nil}, {mixed(147, 1)}} {
				checkOps(t, func() (*device.Device, func() api.Errno) {
					d := newJunk(t, n)
					do(t, run(d, moveOps(n, gen, l)))
					return d, func() api.Errno {
						v, err := vault.Open(d)
						if (v == nil) != (err != api.OK) {
							t.Fatal(v, err)
						}
						return err
					}
				}, moveOps(n, gen+1, l))
			}
		}
	}
}

// P7.2: the contents of the area are the records, as far as the log goes, and they alone are moved.
func TestOpenLog(t *testing.T) {
	const n, gen = 20, 4
	from, h := areaOf(n, gen)
	l := [][]byte{[]byte("abc"), mixed(100, 1), nil, mixed(49, 2), mixed(60, 3)}
	for lost := range h + 1 {
		d := newJunk(t, n)
		do(t, run(d, moveOps(n, gen, l)))
		if lost < h {
			do(t, d.Write(from+lost, mixed(64, 9)))
		}
		want := l
		for i := range l {
			if lost < need(l[:i+1]...) {
				want = l[:i]
				break
			}
		}
		v := open(t, d)
		checkVault(t, v, gen+1, h-need(want...), want...)
		do(t, v.Append([]byte("more")))
		checkVault(t, open(t, d), gen+2, h-need(want...)-1, append(slices.Clone(want), []byte("more"))...)
	}
}

// P7.2: an area with a log of another generation has no records; nor has one whose log is in the other area.
func TestOpenOtherLog(t *testing.T) {
	const n = 12
	for _, gen := range []int{2, 3} {
		for _, other := range []int{gen - 1, gen + 1, gen + 2, gen + 256} {
			d := newDevice(t, n)
			do(t, run(d, recordOps(n, other, 0, texts("abc"))))
			do(t, run(d, superblockOps(n, gen)))
			checkVault(t, open(t, d), gen+1, 5)
		}
	}
}

// P7.2, P7.3: the last generation: it is reached, and nothing is moved any more.
func TestLastGeneration(t *testing.T) {
	const n = 12
	d, v := lastVault(t, n, 1, texts("abc")...)
	checkVault(t, v, maxGen-1, 4, texts("abc")...)
	do(t, v.Replace(texts("x")))
	checkVault(t, v, maxGen, 4, texts("x")...)
	do(t, v.Append([]byte("y")))
	want := imageOf(t, d)
	for _, l := range [][][]byte{nil, texts("z"), {make([]byte, 1<<20+1)}, {mixed(49*6, 1)}} {
		if err := v.Replace(l); err != api.ErrFull {
			t.Error(err)
		}
	}
	if again, err := vault.Open(d); again != nil || err != api.ErrFull {
		t.Error(again, err)
	}
	if d.Loose() != 0 || !sameRecords(imageOf(t, d), want) {
		t.Error("moved behind the last generation")
	}
	do(t, v.Append([]byte("z")))
	checkVault(t, v, maxGen, 2, texts("x", "y", "z")...)
}

// P7.3: what Append does, and in which order, after records of all kinds.
func TestAppendOps(t *testing.T) {
	for _, n := range []int{14, 15, 20} {
		for gen := 2; gen < 5; gen++ {
			for _, l := range [][][]byte{nil, texts("abc"), {mixed(98, 1), nil}} {
				for _, length := range []int{0, 1, 49, 50, 98, 99, 147} {
					rec := mixed(length, 5)
					checkOps(t, func() (*device.Device, func() api.Errno) {
						d := newJunk(t, n)
						do(t, run(d, moveOps(n, gen-1, l)))
						v := open(t, d)
						return d, func() api.Errno { return v.Append(rec) }
					}, recordOps(n, gen, need(l...), [][]byte{rec}))
				}
			}
		}
	}
}

// P7.3: what Replace does, and in which order.
func TestReplaceOps(t *testing.T) {
	for _, n := range []int{8, 14, 15} {
		for gen := 2; gen < 5; gen++ {
			for _, l := range [][][]byte{nil, {nil}, texts("x", "y", "z"), {mixed(50, 1), nil}, {mixed(147, 1)}} {
				checkOps(t, func() (*device.Device, func() api.Errno) {
					d := newJunk(t, n)
					do(t, run(d, moveOps(n, gen-1, texts("abc"))))
					v := open(t, d)
					return d, func() api.Errno { return v.Replace(l) }
				}, moveOps(n, gen+1, l))
			}
		}
	}
}

// checkRefused expects that a call is refused, and that nothing changes.
func checkRefused(t *testing.T, d *device.Device, v *vault.Vault, want api.Errno, call func() api.Errno) {
	t.Helper()
	gen, free, records, image := v.Gen(), v.Free(), v.Records(), imageOf(t, d)
	if err := call(); err != want {
		t.Errorf("%v, not %v", err, want)
	}
	checkVault(t, v, gen, free, records...)
	if d.Loose() != 0 || !sameRecords(imageOf(t, d), image) {
		t.Error("the device is changed")
	}
}

// P7.3: records that are too long, or need too many sectors; a record that is both is too long; the vault is not broken by that.
func TestRefusals(t *testing.T) {
	long := make([]byte, 1<<20+1)
	for _, n := range []int{8, 9, 12, 40} {
		_, h := areaOf(n, 0)
		for used := range h + 1 {
			d, v := newVault(t, n, slices.Repeat(texts("u"), used)...)
			checkVault(t, v, 3, h-used, slices.Repeat(texts("u"), used)...)
			full := mixed(max(0, 49*(h-used)), 1)
			checkRefused(t, d, v, api.ErrLong, func() api.Errno { return v.Append(long) })
			checkRefused(t, d, v, api.ErrFull, func() api.Errno { return v.Append(long[1:]) })
			checkRefused(t, d, v, api.ErrLong, func() api.Errno { return v.Replace([][]byte{nil, long, nil}) })
			checkRefused(t, d, v, api.ErrLong, func() api.Errno { return v.Replace([][]byte{long[1:], long}) })
			checkRefused(t, d, v, api.ErrFull, func() api.Errno { return v.Replace([][]byte{long[1:]}) })
			checkRefused(t, d, v, api.ErrFull, func() api.Errno { return v.Replace(make([][]byte, h+1)) })
			checkRefused(t, d, v, api.ErrFull, func() api.Errno { return v.Replace([][]byte{mixed(49*h+1, 1)}) })
			checkRefused(t, d, v, api.ErrFull, func() api.Errno { return v.Replace([][]byte{nil, mixed(49*h-48, 1)}) })
			checkRefused(t, d, v, api.ErrFull, func() api.Errno { return v.Append(append(full, 1)) })
			if used < h {
				do(t, v.Append(full))
			}
			checkRefused(t, d, v, api.ErrFull, func() api.Errno { return v.Append(nil) })
			do(t, v.Replace(make([][]byte, h)))
			checkVault(t, v, 4, 0, make([][]byte, h)...)
			do(t, v.Replace([][]byte{mixed(49*h, 1)}))
			checkVault(t, v, 5, 0, mixed(49*h, 1))
		}
	}
}

// P7.3: from the first error of its device on a vault is broken, whatever is asked of it, also when the device is well again; its records are those before the call.
func TestBroken(t *testing.T) {
	long := make([]byte, 1<<20+1)
	l := texts("abc", "de")
	calls := []func(v *vault.Vault) api.Errno{
		func(v *vault.Vault) api.Errno { return v.Append([]byte("f")) },
		func(v *vault.Vault) api.Errno { return v.Replace(texts("g")) },
	}
	for i, ops := range []int{2, 4 + 1 + 5} {
		for fuse := range ops {
			d, v := newVault(t, 12, l...)
			do(t, d.Fuse(fuse))
			if err := calls[i](v); err != api.ErrOut {
				t.Fatal(err)
			}
			for range 2 {
				for _, err := range []api.Errno{v.Append(nil), v.Append(long), v.Append(long[1:]), v.Replace(nil), v.Replace([][]byte{long}), v.Replace([][]byte{long[1:]})} {
					if err != api.ErrBroken {
						t.Errorf("a fuse of %d: %v", fuse, err)
					}
				}
				checkVault(t, v, 3, 3, l...)
				do(t, d.Crash(nil, 0))
			}
		}
	}
}

// P7.3: a device that is out breaks a vault only if it is asked for something.
func TestOutIsSeenLate(t *testing.T) {
	d, v := newVault(t, 12, texts("abc")...)
	do(t, d.Fuse(0))
	d.Flush()
	if err := v.Append(make([]byte, 1<<20+1)); err != api.ErrLong {
		t.Error(err)
	}
	if err := v.Append(mixed(49*5, 1)); err != api.ErrFull {
		t.Error(err)
	}
	if err := v.Replace([][]byte{make([]byte, 1<<20+1)}); err != api.ErrLong {
		t.Error(err)
	}
	if err := v.Replace(make([][]byte, 6)); err != api.ErrFull {
		t.Error(err)
	}
	checkVault(t, v, 3, 4, texts("abc")...)
	if err := v.Append(nil); err != api.ErrOut {
		t.Error(err)
	}
	if err := v.Append(nil); err != api.ErrBroken {
		t.Error(err)
	}
}

// P7.3: an error of the device that is not that of a fuse.
func TestSpoiltDevice(t *testing.T) {
	for i := range 2 {
		d, v := newVault(t, 12, texts("abc")...)
		*d = device.Device{}
		calls := []func() api.Errno{func() api.Errno { return v.Append(nil) }, func() api.Errno { return v.Replace(nil) }}
		if err := calls[i](); err != api.ErrNil {
			t.Error(err)
		}
		if err := calls[1-i](); err != api.ErrBroken {
			t.Error(err)
		}
		checkVault(t, v, 3, 4, texts("abc")...)
	}
}

// P7.3, P7.4: records in the order in which they were appended, and how many sectors are left.
func TestRecords(t *testing.T) {
	d, v := newVault(t, 40)
	checkVault(t, v, 3, 19)
	var l [][]byte
	for i, length := range []int{3, 0, 49, 50, 100, 1, 147, 98} {
		do(t, v.Append(mixed(length, i)))
		l = append(l, mixed(length, i))
		checkVault(t, v, 3, 19-need(l...), l...)
	}
	do(t, v.Replace(l[2:5]))
	checkVault(t, v, 4, 13, l[2:5]...)
	do(t, v.Append(l[0]))
	checkVault(t, v, 4, 12, l[2], l[3], l[4], l[0])
	do(t, v.Replace(nil))
	checkVault(t, v, 5, 19)
	do(t, v.Append(l[1]))
	checkVault(t, open(t, d), 6, 18, nil)
}

// P7.3, P7.4: a vault that is nil, or that Open did not return, whatever is asked of it.
func TestInvalidVault(t *testing.T) {
	_, v := newVault(t, 8, texts("abc")...)
	copied := *v
	for i, v := range []*vault.Vault{nil, {}, new(vault.Vault), &copied} {
		for _, n := range []int{0, 1, 1 << 20, 1<<20 + 1} {
			if err := v.Append(make([]byte, n)); err != api.ErrNil {
				t.Errorf("Append of %d: %v", i, err)
			}
			if err := v.Replace([][]byte{make([]byte, n)}); err != api.ErrNil {
				t.Errorf("Replace of %d: %v", i, err)
			}
		}
		if err := v.Replace(nil); err != api.ErrNil {
			t.Errorf("Replace of %d: %v", i, err)
		}
		checkVault(t, v, 0, 0)
	}
	do(t, v.Append([]byte("d")))
	checkVault(t, v, 3, 1, texts("abc", "d")...)
}

// P7.3, P7.4: what is passed and what is returned is no memory of the vault; its spare capacity is let alone.
func TestMemory(t *testing.T) {
	d, v := newVault(t, 30)
	rec := append(mixed(60, 1), mixed(60, 2)...)
	do(t, v.Append(rec[:60]))
	list := [][]byte{rec[:60], rec[60:], []byte("spare")}
	if want := append(mixed(60, 1), mixed(60, 2)...); !bytes.Equal(rec, want) {
		t.Error("changed by Append")
	}
	clear(rec)
	checkVault(t, v, 3, 12, mixed(60, 1))
	copy(rec, mixed(60, 3))
	copy(rec[60:], mixed(60, 4))
	do(t, v.Replace(list[:2]))
	want := [][]byte{mixed(60, 3), mixed(60, 4)}
	if !sameRecords(list, append(slices.Clone(want), []byte("spare"))) {
		t.Error("changed by Replace")
	}
	clear(rec)
	list[0], list[1] = nil, []byte("other")
	checkVault(t, v, 4, 10, want...)
	for range 2 {
		got := v.Records()
		for i, rec := range got {
			clear(rec[:cap(rec)])
			if !sameRecords(got[i+1:], want[i+1:]) {
				t.Error("two records share memory")
			}
		}
		clear(got[:cap(got)])
		checkVault(t, v, 4, 10, want...)
	}
	checkVault(t, open(t, d), 5, 10, want...)
}

// P7.4: a vault that was opened has records of its own.
func TestOpenedMemory(t *testing.T) {
	d, _ := newVault(t, 20, texts("abc", "de")...)
	v := open(t, d)
	for _, rec := range v.Records() {
		clear(rec)
	}
	checkVault(t, v, 4, 7, texts("abc", "de")...)
}

// P7.2 to P7.4: the chapter's examples.
func TestExamples(t *testing.T) {
	d := newDevice(t, 8)
	if v, err := vault.Open(d); v != nil || err != api.ErrBroken {
		t.Error(v, err)
	}
	do(t, vault.Format(d))
	v := open(t, d)
	checkVault(t, v, 2, 3)
	do(t, v.Append([]byte("abc")))
	checkRefused(t, d, v, api.ErrFull, func() api.Errno { return v.Append(make([]byte, 100)) })
	checkVault(t, v, 2, 2, texts("abc")...)
	v = open(t, d)
	checkVault(t, v, 3, 2, texts("abc")...)
	do(t, v.Replace(texts("x", "y", "z")))
	checkVault(t, v, 4, 0, texts("x", "y", "z")...)
	checkRefused(t, d, v, api.ErrFull, func() api.Errno { return v.Append(nil) })
	checkRefused(t, d, v, api.ErrFull, func() api.Errno { return v.Replace(texts("x", "y", "z", "u")) })
	do(t, d.Fuse(4))
	if err := v.Replace(nil); err != api.ErrOut {
		t.Error(err)
	}
	checkVault(t, v, 4, 0, texts("x", "y", "z")...)
	if err := v.Append(nil); err != api.ErrBroken {
		t.Error(err)
	}
	do(t, d.Crash(nil, 0))
	checkVault(t, open(t, d), 5, 0, texts("x", "y", "z")...)
}
