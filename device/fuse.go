package device

// fuse is how many more writes and flushes are made.
type fuse struct{ left int }

// burn reports whether the fuse lets one more be made, which it then counts.
func (f *fuse) burn() bool {
	if f.left == 0 {
		return false
	}
	f.left--
	return true
}

// noFuse is in the place of a fuse where there is none.
type noFuse struct{}

// burn lets everything be made.
func (noFuse) burn() bool { return true }
