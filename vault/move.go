package vault

import (
	"entrepot/api"
	"entrepot/log"
)

// step is something that is done to a device.
type step func() api.Errno

// do does one step after the other, and ends at the first error.
func do(steps ...step) api.Errno {
	for _, s := range steps {
		if err := s(); err != api.OK {
			return err
		}
	}
	return api.OK
}

// do does steps to the device of the vault, which an error breaks: nobody knows how much of them is there.
func (v *Vault) do(steps ...step) api.Errno {
	err := do(steps...)
	v.broken = err != api.OK
	return err
}

// move makes records those of the next generation, which counts from then on.
func (v *Vault) move(l [][]byte) api.Errno {
	if err := v.moves(l); err != api.OK {
		return err
	}
	next, end := areaOf(v.d.Size(), v.area.Gen+1), 0
	steps := []step{func() api.Errno { return log.Blank(v.d, next) }}
	for _, rec := range l {
		steps = append(steps, v.writing(rec, next, &end))
	}
	// The records are flushed ahead of the superblock, so that it never counts without them.
	steps = append(steps,
		v.d.Flush,
		func() api.Errno { return writeSuperblock(v.d, next.Gen) },
		v.d.Flush,
	)
	if err := v.do(steps...); err != api.OK {
		return err
	}
	v.area, v.records, v.end = next, clones(l), end
	return api.OK
}

// moves returns why the vault cannot be moved to records, if that is so.
func (v *Vault) moves(l [][]byte) api.Errno {
	if v.area.Gen == api.MaxGen {
		return api.ErrFull
	}
	need := 0
	for _, rec := range l {
		if len(rec) > api.MaxRecord {
			return api.ErrLong
		}
		need += log.Need(len(rec))
	}
	if need > sectors(v.area) {
		return api.ErrFull
	}
	return api.OK
}

// writing returns the step that writes a record in an area, from an index on, which is then the one after it.
func (v *Vault) writing(rec []byte, a api.Area, at *int) step {
	return func() (err api.Errno) {
		*at, err = log.Write(v.d, a, *at, rec)
		return err
	}
}
