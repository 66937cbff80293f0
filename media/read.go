package media

import (
	"entrepot/api"
	"entrepot/wire"
)

// source is bytes from which a manifest is read.
type source struct {
	reader *wire.Reader
	// How many bytes there are in all: less those that are left, that is where the next thing begins.
	size int
	// The first fault of what the reader could read. There is none if the reader had a fault before.
	refused api.Fault
}

// manifest reads a manifest.
func (s *source) manifest() api.Manifest {
	m := api.Manifest{Kind: s.kind()}
	m.Title = s.text()
	switch m.Kind {
	case api.MediaImage:
		m.Config = s.desc()
		m.Layers = s.descs(api.MaxLayers)
	case api.MediaIndex:
		m.Subs = s.descs(api.MaxSubs)
	}
	return m
}

// kind reads what stands ahead of the title.
func (s *source) kind() int {
	if s.reader.Num() != mark {
		s.refuse(api.ErrMedia, 0)
	}
	kind := s.reader.Num()
	if kind != api.MediaImage && kind != api.MediaIndex {
		s.refuse(api.ErrMedia, 0)
	}
	return kind
}

// text reads a text.
func (s *source) text() string {
	return s.reader.Text(api.MaxBlob)
}

// desc reads a description.
func (s *source) desc() api.Desc {
	d := api.Desc{Media: s.reader.Num()}
	d.ID = s.reader.ID()
	d.Size = s.reader.Num()
	d.Platform = s.text()
	return d
}

// descs reads how many descriptions there are, and each of them, unless they are more than the most.
func (s *source) descs(most int) []api.Desc {
	at := s.size - s.reader.Rest()
	n := s.reader.Num()
	if n > most {
		s.refuse(api.ErrLong, at)
		return nil
	}
	return several(n, s.desc)
}

// several reads a number of things.
func several[T any](n int, read func() T) []T {
	var list []T
	for range n {
		list = append(list, read())
	}
	return list
}

// refuse keeps a fault of what was read last, unless there was one before.
func (s *source) refuse(err api.Errno, at int) {
	if s.reads() {
		s.refused = api.Fault{Err: err, At: at}
	}
}

// reads reports whether there was no fault so far. Bytes that are left are a fault at the end alone, and only a reader without a fault has any.
func (s *source) reads() bool {
	return s.refused.Err == api.OK && (s.reader.Rest() > 0 || s.reader.End().Err == api.OK)
}

// end returns the first fault, or that bytes are left.
func (s *source) end() api.Fault {
	if s.refused.Err != api.OK {
		return s.refused
	}
	return s.reader.End()
}
