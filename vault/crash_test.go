package vault_test

import (
	"fmt"
	"slices"
	"testing"

	"entrepot/api"
	"entrepot/device"
	"entrepot/vault"
)

// change is a call that changes records, and what it makes of them.
type change struct {
	name string
	call func(v *vault.Vault) api.Errno
	make func(l [][]byte) [][]byte
}

func appending(rec []byte) change {
	return change{
		fmt.Sprintf("Append of %d bytes", len(rec)),
		func(v *vault.Vault) api.Errno { return v.Append(rec) },
		func(l [][]byte) [][]byte { return append(slices.Clone(l), rec) },
	}
}

func replacing(with ...[]byte) change {
	return change{
		fmt.Sprintf("Replace by %d records", len(with)),
		func(v *vault.Vault) api.Errno { return v.Replace(with) },
		func([][]byte) [][]byte { return with },
	}
}

// changes fit behind two sectors in an area of six.
func changes() []change {
	return []change{
		appending(nil), appending([]byte("new")), appending(mixed(50, 7)), appending(mixed(49*4, 8)), appending(make([]byte, 100)),
		replacing(), replacing(nil), replacing(texts("n", "e", "w")...), replacing(mixed(49*6, 9)), replacing(mixed(60, 7), nil, mixed(120, 8)),
	}
}

// lists are all lists of n bools.
func lists(n int) [][]bool {
	all := [][]bool{nil}
	for range n {
		var longer [][]bool
		for _, l := range all {
			longer = append(longer, append(slices.Clone(l), false), append(slices.Clone(l), true))
		}
		all = longer
	}
	return all
}

// tears are where a sector of a superblock or of a log is torn, about the ends of all that is in it.
func tears() []int {
	return []int{0, 1, 3, 4, 7, 8, 12, 13, 14, 31, 32, 33, 36, 39, 40, 44, 45, 62, 63}
}

// keeps are ways to keep n loose writes: all of them, if these are few.
func keeps(n int) [][]bool {
	if n <= 4 {
		return lists(n)
	}
	all := [][]bool{nil, slices.Repeat([]bool{true}, n)}
	for i := range n {
		one := make([]bool, n)
		one[i] = true
		others := slices.Repeat([]bool{true}, n)
		others[i] = false
		all = append(all, one, others, slices.Repeat([]bool{true}, i))
	}
	return all
}

// checkOpened expects that a vault is opened with some records, twice, and goes on from there.
func checkOpened(t *testing.T, d *device.Device, want ...[][]byte) [][]byte {
	t.Helper()
	v := open(t, d)
	got, gen := v.Records(), v.Gen()
	if !slices.ContainsFunc(want, func(l [][]byte) bool { return sameRecords(got, l) }) {
		t.Fatalf("opened with %q, not %q", got, want)
	}
	again := open(t, d)
	checkVault(t, again, gen+1, v.Free(), got...)
	if again.Free() > 0 {
		do(t, again.Append([]byte("on")))
		got = append(got, []byte("on"))
	}
	checkVault(t, open(t, d), gen+2, again.Free(), got...)
	return got[:len(v.Records())]
}

// olds are records that take two sectors.
func olds() [][]byte { return [][]byte{[]byte("old"), mixed(49, 6)} }

// P7.5: a call that was acknowledged is there after a crash, whatever is kept; one that was cut, wherever, is there completely or not at all.
func TestCrashOfCall(t *testing.T) {
	if testing.Short() {
		t.Skip("takes seconds")
	}
	for _, n := range []int{14, 15} {
		for gens := range 2 {
			for _, c := range changes() {
				t.Run(fmt.Sprintf("%d sectors, %d, %s", n, gens, c.name), func(t *testing.T) {
					checkCuts(t, c, func() (*device.Device, *vault.Vault) {
						d, v := newVault(t, n, olds()...)
						if gens == 1 {
							v = open(t, d)
						}
						return d, v
					})
				})
			}
		}
	}
}

// checkCuts cuts a call at each of its writes and flushes, and makes all kinds of crashes.
func checkCuts(t *testing.T, c change, made func() (*device.Device, *vault.Vault)) {
	t.Helper()
	done := false
	for fuse := 0; !done; fuse++ {
		loose := 0
		for round := 0; round == 0 || round < len(keeps(loose)); round++ {
			for _, torn := range tears() {
				d, v := made()
				before := v.Records()
				do(t, d.Fuse(fuse))
				err := c.call(v)
				if err != api.OK && err != api.ErrOut {
					t.Fatal(err)
				}
				loose, done = d.Loose(), err == api.OK
				do(t, d.Crash(keeps(loose)[round], torn))
				if done {
					checkOpened(t, d, c.make(before))
				} else {
					checkOpened(t, d, before, c.make(before))
				}
			}
		}
	}
}

// P7.5: of an Append that was cut nothing is there unless all its sectors were kept.
func TestCrashOfAppend(t *testing.T) {
	for _, length := range []int{0, 49, 50, 147, 196} {
		rec := mixed(length, 5)
		sectors := need(rec)
		for fuse := range sectors + 1 {
			for _, keep := range lists(fuse) {
				for _, torn := range tears() {
					d, v := newVault(t, 14, olds()...)
					do(t, d.Fuse(fuse))
					if err := v.Append(rec); err != api.ErrOut {
						t.Fatal(err)
					}
					do(t, d.Crash(keep, torn))
					if fuse == sectors && !slices.Contains(keep, false) {
						checkOpened(t, d, append(olds(), rec))
					} else {
						checkOpened(t, d, olds())
					}
				}
			}
		}
	}
}

// P7.5: of a Replace that was cut nothing is there unless its superblock was written, and kept or torn behind what is new in it.
func TestCrashOfReplace(t *testing.T) {
	l := texts("n", "ew")
	last := len(moveOps(14, 4, l))
	for fuse := range last {
		for torn := range 64 {
			for _, keep := range []bool{false, true} {
				d, v := newVault(t, 14, olds()...)
				do(t, d.Fuse(fuse))
				if err := v.Replace(l); err != api.ErrOut {
					t.Fatal(err)
				}
				do(t, d.Crash(slices.Repeat([]bool{keep}, fuse), torn))
				// The superblocks of 2 and 4 differ in their sums and in the lowest byte of the generations, which is at 39 of the second half.
				if fuse == last-1 && (keep || torn >= 40) {
					checkOpened(t, d, l)
				} else {
					checkOpened(t, d, olds())
				}
			}
		}
	}
}

// P7.5: an Open that was cut, once or many times in different places, leaves the records as they were.
func TestCrashOfOpen(t *testing.T) {
	for _, c := range changes() {
		d, v := newVault(t, 14, olds()...)
		want := v.Records()
		for gen := range 2 {
			if gen == 1 {
				do(t, c.call(v))
				want = c.make(want)
			}
			ops := len(moveOps(14, 1, want))
			for i := range 4 * ops {
				for _, torn := range tears() {
					do(t, d.Fuse(i%ops))
					if cut, err := vault.Open(d); cut != nil || err != api.ErrOut {
						t.Fatalf("a fuse of %d: %v, %v", i%ops, cut, err)
					}
					kept := keeps(d.Loose())
					do(t, d.Crash(kept[(i+torn)%len(kept)], torn))
				}
			}
			want = checkOpened(t, d, want)
			v = open(t, d)
			do(t, v.Replace(want))
		}
	}
}

// P7.5: a call that was cut, and after it an Open, at each of their places: it is decided by the first crash whether the call was done.
func TestCrashAfterCrash(t *testing.T) {
	rec := mixed(60, 5)
	for _, c := range []change{appending(rec), replacing(rec, nil)} {
		for fuse := range len(moveOps(14, 1, [][]byte{rec, nil})) {
			for second := range len(moveOps(14, 1, append(olds(), rec))) {
				for _, keep := range []bool{false, true} {
					for _, torn := range []int{0, 32, 38, 63} {
						d, v := newVault(t, 14, olds()...)
						do(t, d.Fuse(fuse))
						err := c.call(v)
						do(t, d.Crash(slices.Repeat([]bool{keep}, fuse), torn))
						wants := [][][]byte{c.make(olds())}
						if err != api.OK {
							wants = append(wants, olds())
						}
						do(t, d.Fuse(second))
						opened, err := vault.Open(d)
						if err == api.OK {
							wants = [][][]byte{opened.Records()}
						}
						do(t, d.Crash(slices.Repeat([]bool{!keep}, second), 63-torn))
						checkOpened(t, d, wants...)
					}
				}
			}
		}
	}
}

// random is numbers that look random, and are the same ones each time.
type random struct{ state uint64 }

// below returns the next number, less than n.
func (r *random) below(n int) int {
	r.state = r.state*6364136223846793005 + 1442695040888963407
	return int(r.state>>33) % n
}

// record returns a record, mostly a short one.
func (r *random) record() []byte {
	return mixed([]int{0, 1, 20, 48, 49, 50, 90, 98, 99, 150, 200, 500}[r.below(12)], r.below(250))
}

// bools returns a list of bools.
func (r *random) bools(n int) []bool {
	list := make([]bool, r.below(n+1))
	for i := range list {
		list[i] = r.below(3) > 0
	}
	return list
}

// trial is a vault and its model, and what was acknowledged.
type trial struct {
	random
	d     *device.Device
	v     *vault.Vault
	m     *model
	acked [][]byte
	under [][]byte // what the call under way would make of them
}

// fuse puts the same fuse in both devices, or none.
func (x *trial) fuse(t *testing.T) {
	t.Helper()
	if n := x.below(60); n < 30 && !x.d.Out() {
		do(t, x.d.Fuse(n))
		do(t, x.m.d.Fuse(n))
	}
}

// crash crashes both devices, and opens both vaults; it may take several crashes.
func (x *trial) crash(t *testing.T) {
	t.Helper()
	for {
		keep, torn := x.bools(x.d.Loose()+1), x.below(64)
		do(t, x.d.Crash(keep, torn))
		do(t, x.m.d.Crash(keep, torn))
		x.fuse(t)
		v, err := vault.Open(x.d)
		if code := x.m.open(); err != code {
			t.Fatalf("Open: %v, not %v", err, code)
		}
		if err == api.OK {
			x.v = v
			break
		}
		if err != api.ErrOut {
			t.Fatal(err)
		}
	}
	if got := x.v.Records(); !sameRecords(got, x.acked) && !sameRecords(got, x.under) {
		t.Fatalf("%q after a crash, not %q or %q", got, x.acked, x.under)
	}
	x.acked = x.v.Records()
	x.under = x.acked
}

// change does a call to both vaults.
func (x *trial) change(t *testing.T) {
	t.Helper()
	var err, code api.Errno
	var made [][]byte
	if x.below(4) > 0 {
		rec := x.record()
		err, code = x.v.Append(rec), x.m.append(rec)
		made = append(slices.Clone(x.acked), rec)
	} else {
		for range x.below(4) {
			made = append(made, x.record())
		}
		err, code = x.v.Replace(made), x.m.replace(made)
	}
	if err != code {
		t.Fatalf("%v, not %v", err, code)
	}
	switch err {
	case api.OK:
		x.acked, x.under = made, made
	case api.ErrOut:
		x.under = made
	}
}

// P7.1 to P7.5: many calls and crashes, and the chapter's definitions beside them.
func TestLongTrial(t *testing.T) {
	for seed := range 60 {
		n := 8 + seed%25
		x := &trial{random: random{uint64(seed)}, d: newJunk(t, n), m: &model{d: newJunk(t, n), n: n}}
		do(t, vault.Format(x.d))
		do(t, x.m.format())
		x.crash(t)
		for range 300 {
			x.fuse(t)
			x.change(t)
			checkSame(t, x.v, x.d, x.m)
			if x.below(4) == 0 {
				x.crash(t)
				checkSame(t, x.v, x.d, x.m)
			}
		}
	}
}
