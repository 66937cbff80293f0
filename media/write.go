package media

import (
	"entrepot/api"
	"entrepot/wire"
)

// part writes something to the writer over which it is closed. It tells no error: the writer keeps the first one.
type part func()

// write writes parts, one behind the other.
func write(parts ...part) {
	for _, p := range parts {
		p()
	}
}

// one is the part that is written by one call of a writer's method.
func one[T any](method func(T) api.Errno, x T) part {
	return func() { method(x) }
}

// body is what of a manifest stands behind its title.
func body(w *wire.Writer, m api.Manifest) part {
	if m.Kind == api.MediaIndex {
		return descs(w, m.Subs)
	}
	return func() { write(desc(w, m.Config), descs(w, m.Layers)) }
}

// desc is a description.
func desc(w *wire.Writer, d api.Desc) part {
	return func() { write(one(w.Num, d.Media), one(w.ID, d.ID), one(w.Num, d.Size), one(w.Text, d.Platform)) }
}

// descs is the number of descriptions, and each of them.
func descs(w *wire.Writer, list []api.Desc) part {
	parts := []part{one(w.Num, len(list))}
	for _, d := range list {
		parts = append(parts, desc(w, d))
	}
	return func() { write(parts...) }
}
