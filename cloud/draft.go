package cloud

import (
	"entrepot/api"
	"entrepot/vector"
)

// draft is a cloud that is being built: its vector is raised first, then dots are absorbed, once.
type draft struct {
	v    []int
	dots []api.Dot
}

// start returns the draft of no dots, which has a number for each region.
func start() *draft {
	return &draft{v: make([]int, api.MaxRegions)}
}

// raise adds the first v[i] dots of each region i + 1.
func (f *draft) raise(v []int) *draft {
	f.v = vector.Join(f.v, v)
	return f
}

// absorb adds dots that come in ascending order: one that is not the next one of its region when it comes never will be, as no lesser one comes behind it.
func (f *draft) absorb(dots []api.Dot) *draft {
absorbing:
	for i, d := range dots {
		switch {
		case vector.Has(f.v, d), i > 0 && d == dots[i-1]:
			continue absorbing
		case d == vector.Next(f.v, d.R):
			f.v[d.R-1] = d.N
			continue absorbing
		}
		f.dots = append(f.dots, d)
	}
	return f
}

// done returns the cloud, unless it has too many dots beside its vector.
func (f *draft) done() (api.Cloud, api.Errno) {
	if len(f.dots) > api.MaxDots {
		return api.Cloud{}, api.ErrFull
	}
	return api.Cloud{V: withoutZeros(f.v), Dots: f.dots}, api.OK
}
