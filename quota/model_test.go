package quota_test

import (
	"bytes"
	"regexp"
	"slices"
	"testing"

	"entrepot/api"
	"entrepot/quota"
)

// model is links, as the chapter defines them, with the names of the tests' own library.
type model struct {
	limit int
	links []kept
}

type kept struct {
	repo string
	id   api.ID
	size int
}

var repoPattern = regexp.MustCompile(`^[a-z0-9]+((\.|_|__|-+)[a-z0-9]+)*(/[a-z0-9]+((\.|_|__|-+)[a-z0-9]+)*){0,7}$`)

func isRepo(s string) bool {
	return len(s) <= 128 && repoPattern.MatchString(s)
}

func (m *model) find(repo string, id api.ID) int {
	return slices.IndexFunc(m.links, func(k kept) bool { return k.repo == repo && k.id == id })
}

func (m *model) add(repo string, id api.ID, size int, limited bool) (bool, api.Errno) {
	if !isRepo(repo) {
		return false, api.ErrName
	}
	if size < 0 || size > 4096 {
		return false, api.ErrRange
	}
	if i := m.find(repo, id); i >= 0 && m.links[i].size != size {
		return false, api.ErrSize
	} else if i >= 0 {
		return false, api.OK
	}
	if limited && m.use(repo)+size > m.limit {
		return false, api.ErrQuota
	}
	if len(m.links) >= 65536 {
		return false, api.ErrFull
	}
	m.links = append(m.links, kept{repo, id, size})
	return true, api.OK
}

func (m *model) mount(from, to string, id api.ID) (bool, api.Errno) {
	if !isRepo(from) || !isRepo(to) {
		return false, api.ErrName
	}
	i := m.find(from, id)
	if i < 0 {
		return false, api.ErrBlob
	}
	return m.add(to, id, m.links[i].size, true)
}

// remove takes the links away that are to go, and returns how many these were.
func (m *model) remove(goes func(kept) bool) int {
	before := len(m.links)
	m.links = slices.DeleteFunc(m.links, goes)
	return before - len(m.links)
}

func (m *model) use(repo string) int {
	sum := 0
	for _, k := range m.links {
		if k.repo == repo {
			sum += k.size
		}
	}
	return sum
}

func (m *model) repos() []string {
	var l []string
	for _, k := range m.links {
		if !slices.Contains(l, k.repo) {
			l = append(l, k.repo)
		}
	}
	slices.SortFunc(l, func(a, b string) int { return bytes.Compare([]byte(a), []byte(b)) })
	return l
}

func (m *model) ids(repo string) []api.ID {
	var l []api.ID
	for _, k := range m.links {
		if k.repo == repo {
			l = append(l, k.id)
		}
	}
	slices.SortFunc(l, func(a, b api.ID) int { return bytes.Compare(a[:], b[:]) })
	return l
}

// both is links and their model, to which the same is done.
type both struct {
	t *testing.T
	l *quota.Links
	m *model
}

func newLinks(t *testing.T, limit int) *quota.Links {
	t.Helper()
	l, err := quota.New(limit)
	if l == nil || err != api.OK {
		t.Fatalf("New(%d) = %v, %v", limit, l, err)
	}
	return l
}

func newBoth(t *testing.T, limit int) *both {
	t.Helper()
	return &both{t, newLinks(t, limit), &model{limit: limit}}
}

// answered compares what a call answered in both.
func (x *both) answered(what string, is bool, err api.Errno, wantIs bool, want api.Errno) (bool, api.Errno) {
	x.t.Helper()
	if is != wantIs || err != want {
		x.t.Fatalf("%s = %v, %v, not %v, %v", what, is, err, wantIs, want)
	}
	return is, err
}

func (x *both) link(repo string, id api.ID, size int) (bool, api.Errno) {
	x.t.Helper()
	is, err := x.l.Link(repo, id, size)
	wantIs, want := x.m.add(repo, id, size, true)
	return x.answered("Link to "+repo, is, err, wantIs, want)
}

func (x *both) lay(repo string, id api.ID, size int) (bool, api.Errno) {
	x.t.Helper()
	is, err := x.l.Lay(repo, id, size)
	wantIs, want := x.m.add(repo, id, size, false)
	return x.answered("Lay to "+repo, is, err, wantIs, want)
}

func (x *both) mount(from, to string, id api.ID) (bool, api.Errno) {
	x.t.Helper()
	is, err := x.l.Mount(from, to, id)
	wantIs, want := x.m.mount(from, to, id)
	return x.answered("Mount from "+from+" to "+to, is, err, wantIs, want)
}

func (x *both) unlink(repo string, id api.ID) bool {
	x.t.Helper()
	is := x.l.Unlink(repo, id)
	if want := x.m.remove(func(k kept) bool { return k.repo == repo && k.id == id }) > 0; is != want {
		x.t.Fatalf("Unlink(%q, %x) = %v", repo, id, is)
	}
	return is
}

func (x *both) forget(id api.ID) int {
	x.t.Helper()
	n := x.l.Forget(id)
	if want := x.m.remove(func(k kept) bool { return k.id == id }); n != want {
		x.t.Fatalf("Forget(%x) = %d, not %d", id, n, want)
	}
	return n
}

// adder is Link or Lay of both, or a func like these.
type adder func(repo string, id api.ID, size int) (bool, api.Errno)

// mustAdd adds a link that is to be added.
func (x *both) mustAdd(add adder, repo string, id api.ID, size int) {
	x.t.Helper()
	if is, err := add(repo, id, size); !is || err != api.OK {
		x.t.Fatalf("%q, %x, %d: %v, %v", repo, id[:3], size, is, err)
	}
	x.check()
}

// mustHave adds a link that is to be there before.
func (x *both) mustHave(add adder, repo string, id api.ID, size int) {
	x.t.Helper()
	if is, err := add(repo, id, size); is || err != api.OK {
		x.t.Fatalf("%q, %x, %d: %v, %v", repo, id[:3], size, is, err)
	}
	x.check()
}

// refuse adds a link that is to be refused with an error, which is to change nothing.
func (x *both) refuse(add adder, repo string, id api.ID, size int, want api.Errno) {
	x.t.Helper()
	if is, err := add(repo, id, size); is || err != want {
		x.t.Fatalf("%q, %x, %d: %v, %v, not %v", repo, id[:3], size, is, err, want)
	}
	x.check()
}

// refuseMount mounts what is to be refused with an error, which is to change nothing.
func (x *both) refuseMount(from, to string, id api.ID, want api.Errno) {
	x.t.Helper()
	if is, err := x.mount(from, to, id); is || err != want {
		x.t.Fatalf("Mount(%q, %q, %x) = %v, %v, not %v", from, to, id[:3], is, err, want)
	}
	x.check()
}

// look compares what both tell of a repository.
func (x *both) look(repo string) {
	x.t.Helper()
	if ids, want := x.l.IDs(repo), x.m.ids(repo); !slices.Equal(ids, want) {
		x.t.Fatalf("IDs(%q) = %x, not %x", repo, ids, want)
	}
	if n, want := x.l.Use(repo), x.m.use(repo); n != want {
		x.t.Fatalf("Use(%q) = %d, not %d", repo, n, want)
	}
}

// check compares all that the links tell with what their model does.
func (x *both) check() {
	x.t.Helper()
	if x.l.Limit() != x.m.limit {
		x.t.Fatalf("Limit = %d, not %d", x.l.Limit(), x.m.limit)
	}
	repos, want := x.l.Repos(), x.m.repos()
	if !slices.Equal(repos, want) {
		x.t.Fatalf("Repos = %q, not %q", repos, want)
	}
	for _, repo := range repos {
		x.look(repo)
	}
	for _, repo := range others {
		x.look(repo)
	}
	for _, k := range x.m.links {
		if !x.l.Has(k.repo, k.id) {
			x.t.Fatalf("Has(%q, %x): not", k.repo, k.id)
		}
	}
}
