package vault_test

import (
	"bytes"
	"encoding/binary"
	"hash/crc32"
	"slices"
	"testing"

	"entrepot/api"
	"entrepot/device"
	"entrepot/vault"
)

const maxGen = 1<<31 - 1

// op is one thing that is done to a device: a flush, or a write.
type op struct {
	flush bool
	at    int
	b     []byte
}

func writeOp(at int, b []byte) op { return op{at: at, b: b} }

var flushOp = op{flush: true}

// run does things to a device, up to the first error.
func run(d *device.Device, ops []op) api.Errno {
	for _, o := range ops {
		err := api.OK
		if o.flush {
			err = d.Flush()
		} else {
			err = d.Write(o.at, o.b)
		}
		if err != api.OK {
			return err
		}
	}
	return api.OK
}

// sealed puts the sum at the beginning.
func sealed(rest []byte) []byte {
	return append(binary.BigEndian.AppendUint32(nil, crc32.ChecksumIEEE(rest)), rest...)
}

// half is a superblock, from what it says.
func half(gen, n uint32, mark byte, zeros []byte) []byte {
	b := binary.BigEndian.AppendUint32(nil, gen)
	b = binary.BigEndian.AppendUint32(b, n)
	return sealed(append(append(b, mark), zeros...))
}

// superblockOf is the sector of the superblock of a generation, on a device of n sectors.
func superblockOf(gen, n int) []byte {
	return bytes.Repeat(half(uint32(gen), uint32(n), 7, make([]byte, 19)), 2)
}

// rightGen asks the chapter's conditions of a superblock one by one, and returns its generation, or 0 if it is not right.
func rightGen(b []byte, n int) int {
	gen := binary.BigEndian.Uint32(b[4:])
	switch {
	case len(b) != 64 || !bytes.Equal(b[:32], b[32:]),
		binary.BigEndian.Uint32(b) != crc32.ChecksumIEEE(b[4:32]),
		gen < 1 || gen > maxGen,
		int(binary.BigEndian.Uint32(b[8:])) != n,
		b[12] != 7,
		!bytes.Equal(b[13:32], make([]byte, 19)):
		return 0
	}
	return int(gen)
}

// sectorsOf are the sectors of a record in a log, from an index on.
func sectorsOf(gen, at int, rec []byte) [][]byte {
	var list [][]byte
	for i := 0; i == 0 || i < len(rec); i += 49 {
		part, kind := rec[i:min(i+49, len(rec))], byte(3)
		switch {
		case len(rec) <= 49:
			kind = 1
		case i == 0:
			kind = 2
		case i+49 >= len(rec):
			kind = 4
		}
		b := binary.BigEndian.AppendUint32(nil, uint32(gen))
		b = binary.BigEndian.AppendUint32(b, uint32(at+len(list)))
		b = append(append(b, kind, byte(len(part))), part...)
		b = append(b, make([]byte, 49-len(part))...)
		list = append(list, sealed(append(b, 165)))
	}
	return list
}

// need is the number of sectors of records.
func need(l ...[]byte) int {
	n := 0
	for _, rec := range l {
		n += max(1, (len(rec)+48)/49)
	}
	return n
}

// areaOf is where the area of a generation begins, and how many sectors it has, on a device of n.
func areaOf(n, gen int) (from, h int) {
	h = (n - 2) / 2
	if gen%2 == 0 {
		return 2, h
	}
	return 2 + h, h
}

// blankOps are what makes the area of a generation zeros.
func blankOps(n, gen int) []op {
	var ops []op
	from, h := areaOf(n, gen)
	for i := range h {
		ops = append(ops, writeOp(from+i, make([]byte, 64)))
	}
	return append(ops, flushOp)
}

// recordOps are what writes records from an index of an area on.
func recordOps(n, gen, at int, l [][]byte) []op {
	var ops []op
	from, _ := areaOf(n, gen)
	for _, rec := range l {
		for _, b := range sectorsOf(gen, at, rec) {
			ops = append(ops, writeOp(from+at, b))
			at++
		}
	}
	return append(ops, flushOp)
}

// superblockOps are what makes a generation count.
func superblockOps(n, gen int) []op {
	return []op{writeOp(gen%2, superblockOf(gen, n)), flushOp}
}

// moveOps are what moves to records under a generation.
func moveOps(n, gen int, l [][]byte) []op {
	return slices.Concat(blankOps(n, gen), recordOps(n, gen, 0, l), superblockOps(n, gen))
}

// formatOps are what formats a device.
func formatOps(n int) []op {
	zeros := make([]byte, 64)
	return slices.Concat([]op{writeOp(0, zeros), writeOp(1, zeros), flushOp}, blankOps(n, 1), superblockOps(n, 1))
}

// model is a vault, as the chapter defines it, on a device of its own.
type model struct {
	d       *device.Device
	n       int
	gen     int
	records [][]byte
	broken  bool
}

func (m *model) format() api.Errno { return run(m.d, formatOps(m.n)) }

// open makes the model what is on its device.
func (m *model) open() api.Errno {
	gen := 0
	for i := range 2 {
		b, err := m.d.Read(i)
		if err != api.OK {
			return err
		}
		gen = max(gen, rightGen(b, m.n))
	}
	if gen == 0 {
		return api.ErrBroken
	}
	opened := model{d: m.d, n: m.n, gen: gen}
	if err := opened.move(m.contents(gen)); err != api.OK {
		return err
	}
	*m = opened
	return api.OK
}

// contents are the records of the log of a generation: those that would be written as just the sectors that are there.
func (m *model) contents(gen int) [][]byte {
	from, h := areaOf(m.n, gen)
	var list [][]byte
	var rec []byte
	first := 0
	for i := range h {
		b, _ := m.d.Read(from + i)
		rec = append(rec, b[14:14+min(b[13], 49)]...)
		if b[12] == 2 || b[12] == 3 {
			continue
		}
		if !m.has(from+first, sectorsOf(gen, first, rec)) {
			return list
		}
		list, rec, first = append(list, rec), nil, i+1
	}
	return list
}

// has reports whether sectors are there, from one on.
func (m *model) has(from int, sectors [][]byte) bool {
	for i, want := range sectors {
		if b, _ := m.d.Read(from + i); !bytes.Equal(b, want) {
			return false
		}
	}
	return true
}

func (m *model) move(l [][]byte) api.Errno {
	if m.gen == maxGen {
		return api.ErrFull
	}
	if slices.ContainsFunc(l, func(rec []byte) bool { return len(rec) > 1<<20 }) {
		return api.ErrLong
	}
	if _, h := areaOf(m.n, 0); need(l...) > h {
		return api.ErrFull
	}
	if err := run(m.d, moveOps(m.n, m.gen+1, l)); err != api.OK {
		m.broken = true
		return err
	}
	m.gen++
	m.records = slices.Clone(l)
	return api.OK
}

func (m *model) append(rec []byte) api.Errno {
	switch {
	case m.broken:
		return api.ErrBroken
	case len(rec) > 1<<20:
		return api.ErrLong
	case need(rec) > m.free():
		return api.ErrFull
	}
	if err := run(m.d, recordOps(m.n, m.gen, need(m.records...), [][]byte{rec})); err != api.OK {
		m.broken = true
		return err
	}
	m.records = append(m.records, rec)
	return api.OK
}

func (m *model) replace(l [][]byte) api.Errno {
	if m.broken {
		return api.ErrBroken
	}
	return m.move(l)
}

func (m *model) free() int {
	_, h := areaOf(m.n, 0)
	return h - need(m.records...)
}

// mixed is a record of n bytes that are hardly the same anywhere, and nowhere 0.
func mixed(n, seed int) []byte {
	b := make([]byte, n)
	for i := range b {
		b[i] = byte(1 + (seed*131+i*7+i/49*3)%255)
	}
	return b
}

// texts is a list of records.
func texts(l ...string) [][]byte {
	var records [][]byte
	for _, s := range l {
		records = append(records, []byte(s))
	}
	return records
}

func newDevice(t *testing.T, n int) *device.Device {
	t.Helper()
	d, err := device.New(n)
	if d == nil || err != api.OK {
		t.Fatalf("New(%d) = %v, %v", n, d, err)
	}
	return d
}

// newJunk is a device whose sectors have junk, all flushed.
func newJunk(t *testing.T, n int) *device.Device {
	t.Helper()
	d := newDevice(t, n)
	for i := range n {
		do(t, d.Write(i, mixed(64, 1000+i)))
	}
	do(t, d.Flush())
	return d
}

// newOut is a device that is out.
func newOut(t *testing.T, n int) *device.Device {
	t.Helper()
	d := newDevice(t, n)
	do(t, d.Fuse(0))
	if d.Flush() != api.ErrOut {
		t.Fatal("a fuse of 0")
	}
	return d
}

// do expects that a call returns no error.
func do(t *testing.T, err api.Errno) {
	t.Helper()
	if err != api.OK {
		t.Fatal(err)
	}
}

// open expects that a vault is opened.
func open(t *testing.T, d *device.Device) *vault.Vault {
	t.Helper()
	v, err := vault.Open(d)
	if v == nil || err != api.OK {
		t.Fatalf("Open = %v, %v", v, err)
	}
	return v
}

// newVault is a vault on a formatted device of n sectors, with records: its generation is 3.
func newVault(t *testing.T, n int, l ...[]byte) (*device.Device, *vault.Vault) {
	t.Helper()
	d := newJunk(t, n)
	do(t, vault.Format(d))
	v := open(t, d)
	do(t, v.Replace(l))
	return d, v
}

// lastVault is a vault under the last generation but some.
func lastVault(t *testing.T, n, before int, l ...[]byte) (*device.Device, *vault.Vault) {
	t.Helper()
	d := newDevice(t, n)
	do(t, run(d, moveOps(n, maxGen-before-1, l)))
	return d, open(t, d)
}

// sameRecords reports whether two lists of records are equal.
func sameRecords(a, b [][]byte) bool {
	return slices.EqualFunc(a, b, bytes.Equal)
}

// checkVault expects what a vault has.
func checkVault(t *testing.T, v *vault.Vault, gen, free int, l ...[]byte) {
	t.Helper()
	if got := v.Records(); v.Gen() != gen || v.Free() != free || !sameRecords(got, l) {
		t.Fatalf("generation %d, %d free, records %q, not %d, %d, %q", v.Gen(), v.Free(), got, gen, free, l)
	}
}

// imageOf is what the image of a device has.
func imageOf(t *testing.T, d *device.Device) [][]byte {
	t.Helper()
	var image [][]byte
	for i := range d.Size() {
		b, err := d.Image(i)
		do(t, err)
		image = append(image, b)
	}
	return image
}

// checkDevices expects that two devices are the same, as far as can be seen.
func checkDevices(t *testing.T, got, want *device.Device) {
	t.Helper()
	if got.Size() != want.Size() || got.Out() != want.Out() || got.Loose() != want.Loose() {
		t.Fatalf("size, out, loose are %d, %v, %d, not %d, %v, %d", got.Size(), got.Out(), got.Loose(), want.Size(), want.Out(), want.Loose())
	}
	for i := range want.Size() {
		for _, ask := range []func(*device.Device, int) ([]byte, api.Errno){(*device.Device).Read, (*device.Device).Image} {
			a, err := ask(got, i)
			b, code := ask(want, i)
			if err != code || !bytes.Equal(a, b) {
				t.Fatalf("sector %d is %v, %v, not %v, %v", i, a, err, b, code)
			}
		}
	}
}

// checkSame expects that a vault is as its model, and its device as the other one's.
func checkSame(t *testing.T, v *vault.Vault, d *device.Device, m *model) {
	t.Helper()
	checkVault(t, v, m.gen, m.free(), m.records...)
	checkDevices(t, d, m.d)
}

// checkOps expects that a call does just these things to a device, whatever fuse there is; made makes a device and the call, the same ones each time.
func checkOps(t *testing.T, made func() (*device.Device, func() api.Errno), ops []op) {
	t.Helper()
	for n := range len(ops) + 2 {
		got, call := made()
		want, _ := made()
		do(t, got.Fuse(n))
		do(t, want.Fuse(n))
		err, code := call(), run(want, ops)
		if err != code || (code == api.OK) != (n >= len(ops)) {
			t.Fatalf("with a fuse of %d: %v, not %v", n, err, code)
		}
		checkDevices(t, got, want)
		keep := slices.Repeat([]bool{true}, len(ops))
		do(t, got.Crash(keep, 0))
		do(t, want.Crash(keep, 0))
		checkDevices(t, got, want)
	}
}
