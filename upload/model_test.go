package upload_test

import (
	"bytes"
	"crypto/sha256"
	"regexp"
	"slices"
	"testing"

	"entrepot/api"
	"entrepot/upload"
)

// model is a table, as the chapter defines it, with the names and the digests of the tests' own library.
type model struct {
	width, next int
	sessions    []api.Session
}

var repos = regexp.MustCompile(`^[a-z0-9]+((\.|_|__|-+)[a-z0-9]+)*(/[a-z0-9]+((\.|_|__|-+)[a-z0-9]+)*){0,7}$`)

func isRepo(s string) bool {
	return len(s) <= 128 && repos.MatchString(s)
}

// digest is the digest of bytes, truncated to a width.
func digest(b []byte, width int) api.ID {
	id := api.ID(sha256.Sum256(b))
	clear(id[width:])
	return id
}

func (m *model) find(n int) int {
	return slices.IndexFunc(m.sessions, func(s api.Session) bool { return s.N == n })
}

func (m *model) start(repo string) (int, api.Errno) {
	switch {
	case !isRepo(repo):
		return 0, api.ErrName
	case len(m.sessions) == 8:
		return 0, api.ErrFull
	case m.next > 1<<20:
		return 0, api.ErrCount
	}
	m.sessions = append(m.sessions, api.Session{N: m.next, Repo: repo})
	m.next++
	return m.next - 1, api.OK
}

func (m *model) write(n, offset int, b []byte) (int, api.Errno) {
	i := m.find(n)
	if i < 0 {
		return 0, api.ErrSession
	}
	s := &m.sessions[i]
	if offset != len(s.B) {
		return len(s.B), api.ErrOffset
	}
	if len(s.B)+len(b) > 4096 {
		return len(s.B), api.ErrLong
	}
	s.B = slices.Concat(s.B, b)
	return len(s.B), api.OK
}

func (m *model) offset(n int) (int, api.Errno) {
	if i := m.find(n); i >= 0 {
		return len(m.sessions[i].B), api.OK
	}
	return 0, api.ErrSession
}

func (m *model) finish(n int, id api.ID) (api.Session, api.Errno) {
	i := m.find(n)
	if i < 0 {
		return api.Session{}, api.ErrSession
	}
	s := m.sessions[i]
	if digest(s.B, m.width) != id {
		return api.Session{}, api.ErrDigest
	}
	m.cancel(n)
	return s, api.OK
}

func (m *model) cancel(n int) api.Errno {
	i := m.find(n)
	if i < 0 {
		return api.ErrSession
	}
	m.sessions = slices.Concat(m.sessions[:i], m.sessions[i+1:])
	return api.OK
}

// all is a model, and tables to which the same is done: a first one, and those that were loaded from it.
type all struct {
	t      *testing.T
	m      *model
	tables []*upload.Table
}

func newAll(t *testing.T, width int) *all {
	t.Helper()
	x, err := upload.New(width)
	if x == nil || err != api.OK {
		t.Fatalf("New(%d) = %v, %v", width, x, err)
	}
	return &all{t, &model{width: width, next: 1}, []*upload.Table{x}}
}

// loadAll loads a table.
func loadAll(t *testing.T, width, next int, l []api.Session) *all {
	t.Helper()
	x, err := upload.Load(width, next, l)
	if x == nil || err != api.OK {
		t.Fatalf("Load(%d, %d, %d sessions) = %v, %v", width, next, len(l), x, err)
	}
	return &all{t, &model{width, next, slices.Clone(l)}, []*upload.Table{x}}
}

// reload adds a table that is loaded from what the first one tells.
func (x *all) reload() {
	x.t.Helper()
	first := x.tables[0]
	y, err := upload.Load(x.m.width, first.Next(), first.List())
	if y == nil || err != api.OK {
		x.t.Fatalf("Load = %v, %v", y, err)
	}
	x.tables = append(x.tables, y)
}

func (x *all) start(repo string) (int, api.Errno) {
	x.t.Helper()
	want, wantErr := x.m.start(repo)
	for i, y := range x.tables {
		if n, err := y.Start(repo); n != want || err != wantErr {
			x.t.Fatalf("%d: Start(%q) = %d, %v, not %d, %v", i, repo, n, err, want, wantErr)
		}
	}
	return want, wantErr
}

func (x *all) write(n, offset int, b []byte) (int, api.Errno) {
	x.t.Helper()
	want, wantErr := x.m.write(n, offset, b)
	for i, y := range x.tables {
		if length, err := y.Write(n, offset, b); length != want || err != wantErr {
			x.t.Fatalf("%d: Write(%d, %d, %d bytes) = %d, %v, not %d, %v", i, n, offset, len(b), length, err, want, wantErr)
		}
	}
	return want, wantErr
}

func (x *all) offset(n int) (int, api.Errno) {
	x.t.Helper()
	want, wantErr := x.m.offset(n)
	for i, y := range x.tables {
		if length, err := y.Offset(n); length != want || err != wantErr {
			x.t.Fatalf("%d: Offset(%d) = %d, %v, not %d, %v", i, n, length, err, want, wantErr)
		}
	}
	return want, wantErr
}

func (x *all) finish(n int, id api.ID) (api.Session, api.Errno) {
	x.t.Helper()
	want, wantErr := x.m.finish(n, id)
	for i, y := range x.tables {
		if s, err := y.Finish(n, id); !same(s, want) || err != wantErr {
			x.t.Fatalf("%d: Finish(%d, %x) = %v, %v, not %v, %v", i, n, id[:3], s, err, want, wantErr)
		}
	}
	return want, wantErr
}

func (x *all) cancel(n int) api.Errno {
	x.t.Helper()
	want := x.m.cancel(n)
	for i, y := range x.tables {
		if err := y.Cancel(n); err != want {
			x.t.Fatalf("%d: Cancel(%d) = %v, not %v", i, n, err, want)
		}
	}
	return want
}

// same reports whether two sessions are equal.
func same(a, b api.Session) bool {
	return a.N == b.N && a.Repo == b.Repo && bytes.Equal(a.B, b.B)
}

// check compares all that the tables tell with the model.
func (x *all) check() {
	x.t.Helper()
	for i, y := range x.tables {
		if y.Next() != x.m.next {
			x.t.Fatalf("%d: Next = %d, not %d", i, y.Next(), x.m.next)
		}
		if l := y.List(); !slices.EqualFunc(l, x.m.sessions, same) {
			x.t.Fatalf("%d: List = %v, not %v", i, l, x.m.sessions)
		}
	}
	for _, s := range x.m.sessions {
		x.offset(s.N)
	}
}

// begin starts a session of a repository, which is to be done, with some bytes.
func (x *all) begin(repo string, b []byte) int {
	x.t.Helper()
	n, err := x.start(repo)
	if err != api.OK {
		x.t.Fatalf("Start(%q): %v", repo, err)
	}
	if _, err := x.write(n, 0, b); err != api.OK {
		x.t.Fatalf("Write of %d bytes: %v", len(b), err)
	}
	return n
}

// refuseStart starts what is to be refused with an error, and to change nothing.
func (x *all) refuseStart(repo string, want api.Errno) {
	x.t.Helper()
	if n, err := x.start(repo); n != 0 || err != want {
		x.t.Fatalf("Start(%q) = %d, %v, not %v", repo, n, err, want)
	}
	x.check()
}

// refuseWrite writes what is to be refused with an error, and to change nothing.
func (x *all) refuseWrite(n, offset int, b []byte, want api.Errno) {
	x.t.Helper()
	if _, err := x.write(n, offset, b); err != want {
		x.t.Fatalf("Write(%d, %d, %d bytes): %v, not %v", n, offset, len(b), err, want)
	}
	x.check()
}

// refuseFinish finishes what is to be refused with an error, and to change nothing.
func (x *all) refuseFinish(n int, id api.ID, want api.Errno) {
	x.t.Helper()
	if s, err := x.finish(n, id); !same(s, api.Session{}) || err != want {
		x.t.Fatalf("Finish(%d, %x) = %v, %v, not %v", n, id[:3], s, err, want)
	}
	x.check()
}

// mixed are n bytes that depend on a number.
func mixed(n int, k uint32) []byte {
	b := make([]byte, n)
	for i := range b {
		k = k*1664525 + 1013904223
		b[i] = byte(k >> 24)
	}
	return b
}
