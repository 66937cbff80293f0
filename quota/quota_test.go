package quota_test

import (
	"math"
	"runtime"
	"slices"
	"strconv"
	"strings"
	"testing"

	"entrepot/api"
	"entrepot/quota"
)

const (
	greatestLimit = 1 << 40
	greatestSize  = 4096
	mostLinks     = 1 << 16
)

// names are names of repositories, wrong are none; others are looked at whatever is linked.
var (
	names  = []string{"a", "0", "library/go_1.2--x", "a__b", "a-b", "a---b.c", "1/2/3/4/5/6/7/8", strings.Repeat("a", 128)}
	wrong  = []string{"", "A", "Ab", "a_", "a-", "a___b", "a..b", "a/", "/a", "a//b", "1/2/3/4/5/6/7/8/9", strings.Repeat("a", 129), "a b", "ä", "a\n", "a\x00", "a\xff"}
	others = []string{"", "A", "a", "b", "zz", "a/", "a\x00"}
)

// digest is a digest that depends on a number: another one for each.
func digest(k int) api.ID {
	var id api.ID
	for i := range id {
		id[i] = byte(k >> (8 * (i % 3)))
	}
	return id
}

// P10.1: which limits there are; what is new has no links.
func TestNew(t *testing.T) {
	for _, limit := range []int{-1, -2, -greatestLimit, greatestLimit + 1, greatestLimit + 2, 2 * greatestLimit, math.MinInt, math.MaxInt, math.MinInt32, -1 << 41} {
		if l, err := quota.New(limit); l != nil || err != api.ErrRange {
			t.Errorf("New(%d) = %v, %v", limit, l, err)
		}
	}
	for _, limit := range []int{0, 1, 2, 4096, 4097, 1 << 31, 1 << 32, greatestLimit - 1, greatestLimit} {
		x := newBoth(t, limit)
		if x.l.Limit() != limit || len(x.l.Repos()) != 0 {
			t.Errorf("%d: %d, %q", limit, x.l.Limit(), x.l.Repos())
		}
		x.check()
	}
}

// invalid are links that New did not make.
func invalid(t *testing.T) []*quota.Links {
	t.Helper()
	l := newLinks(t, 100)
	if is, err := l.Link("a", digest(1), 10); !is || err != api.OK {
		t.Fatal(is, err)
	}
	copied := *l
	return []*quota.Links{nil, {}, new(quota.Links), &copied}
}

// P10.1 to P10.4: an object that is nil, or that New did not make, a copied one too: ErrNil is ahead of all other errors.
func TestInvalid(t *testing.T) {
	for i, l := range invalid(t) {
		if l.Limit() != 0 || len(l.Repos()) != 0 {
			t.Errorf("%d: %d, %q", i, l.Limit(), l.Repos())
		}
		for _, repo := range []string{"a", "b", "A", ""} {
			for _, id := range []api.ID{digest(1), digest(2), {}} {
				for _, size := range []int{0, 10, 11, 200, -1, 4097} {
					for _, add := range []adder{l.Link, l.Lay} {
						if is, err := add(repo, id, size); is || err != api.ErrNil {
							t.Errorf("%d: %v, %v", i, is, err)
						}
					}
				}
				for _, from := range []string{"a", "b", "A", ""} {
					if is, err := l.Mount(from, repo, id); is || err != api.ErrNil {
						t.Errorf("%d: Mount: %v, %v", i, is, err)
					}
				}
				if l.Has(repo, id) || l.Unlink(repo, id) || l.Forget(id) != 0 || l.Use(repo) != 0 || len(l.IDs(repo)) != 0 {
					t.Errorf("%d: %q, %x", i, repo, id[:3])
				}
			}
		}
	}
}

// P10.1: a copy of an object, which is invalid, does nothing to the object.
func TestCopied(t *testing.T) {
	x := newBoth(t, 100)
	x.mustAdd(x.link, "a", digest(1), 10)
	copied := *x.l
	copied.Link("a", digest(2), 1)
	copied.Lay("b", digest(2), 1)
	copied.Mount("a", "b", digest(1))
	copied.Unlink("a", digest(1))
	copied.Forget(digest(1))
	x.check()
}

// P10.2, P10.3, P10.4: the chapter's examples.
func TestExamples(t *testing.T) {
	d, e := digest(1), digest(2)
	x := newBoth(t, 10)
	x.mustAdd(x.link, "a", d, 6)
	x.mustHave(x.link, "a", d, 6)
	x.refuse(x.link, "a", d, 5, api.ErrSize)
	x.refuse(x.link, "a", e, 5, api.ErrQuota)
	x.mustAdd(x.lay, "a", e, 5)
	if x.l.Use("a") != 11 {
		t.Error(x.l.Use("a"))
	}
	if is, err := x.mount("a", "b", d); !is || err != api.OK {
		t.Error(is, err)
	}
	x.refuseMount("c", "b", d, api.ErrBlob)
	x.refuseMount("a", "B", d, api.ErrName)
	if l := x.l.Repos(); !slices.Equal(l, []string{"a", "b"}) {
		t.Error(l)
	}
	if n := x.forget(d); n != 2 {
		t.Error(n)
	}
	if l := x.l.Repos(); !slices.Equal(l, []string{"a"}) || x.l.Use("b") != 0 {
		t.Error(l, x.l.Use("b"))
	}
	x.check()
}

// adders are Link and Lay of an object without links.
func adders(t *testing.T, limit int) []struct {
	*both
	add adder
} {
	t.Helper()
	x, y := newBoth(t, limit), newBoth(t, limit)
	return []struct {
		*both
		add adder
	}{{x, x.link}, {y, y.lay}}
}

// P10.2: a repository has a name; ErrName is ahead of all errors that come behind it.
func TestNames(t *testing.T) {
	for _, x := range adders(t, 10) {
		for i, repo := range names {
			x.mustAdd(x.add, repo, digest(i), i)
			x.mustAdd(x.add, repo, digest(100), 1)
		}
		for _, repo := range wrong {
			for _, size := range []int{0, 1, 2, 11, -1, 4097, math.MinInt, math.MaxInt} {
				x.refuse(x.add, repo, digest(100), size, api.ErrName)
				x.refuse(x.add, repo, digest(200), size, api.ErrName)
			}
		}
	}
}

// P10.2: sizes are from 0 to 4,096; ErrRange is ahead of ErrSize, and of the limit.
func TestSizes(t *testing.T) {
	for _, x := range adders(t, 3*greatestSize) {
		for i, size := range []int{0, 1, 2, greatestSize - 1, greatestSize} {
			x.mustAdd(x.add, "a", digest(i), size)
			x.mustHave(x.add, "a", digest(i), size)
		}
		for _, size := range []int{-1, -2, greatestSize + 1, greatestSize + 2, 1 << 16, 1 << 32, 1<<32 + 1, -1 << 32, -greatestSize, math.MinInt, math.MaxInt} {
			for _, id := range []api.ID{digest(0), digest(4), digest(5)} {
				x.refuse(x.add, "a", id, size, api.ErrRange)
				x.refuse(x.add, "b", id, size, api.ErrRange)
			}
		}
	}
	x := newBoth(t, 0)
	x.refuse(x.link, "a", digest(0), greatestSize+1, api.ErrRange)
	x.refuse(x.link, "a", digest(0), greatestSize, api.ErrQuota)
}

// P10.2: a link has one size, whatever comes, until it is taken away.
func TestSize(t *testing.T) {
	for _, size := range []int{0, 1, 2, 50, greatestSize - 1, greatestSize} {
		for _, x := range adders(t, 2*greatestSize) {
			x.mustAdd(x.add, "a", digest(1), size)
			for _, not := range []int{0, 1, 2, 3, 49, 50, 51, size - 1, size + 1, greatestSize - 1, greatestSize} {
				if not != size && not >= 0 && not <= greatestSize {
					x.refuse(x.add, "a", digest(1), not, api.ErrSize)
				}
			}
			x.mustHave(x.link, "a", digest(1), size)
			x.mustHave(x.lay, "a", digest(1), size)
			x.unlink("a", digest(1))
			x.mustAdd(x.add, "a", digest(1), greatestSize-size)
		}
	}
}

// P10.2: what is linked is there, though its repository has come to its limit, or is far above it: ErrSize and OK are ahead of ErrQuota.
func TestSizeAheadOfQuota(t *testing.T) {
	x := newBoth(t, 10)
	x.mustAdd(x.link, "a", digest(1), 10)
	for range 2 {
		x.mustHave(x.link, "a", digest(1), 10)
		x.refuse(x.link, "a", digest(1), 9, api.ErrSize)
		x.refuse(x.link, "a", digest(1), 11, api.ErrSize)
		x.refuse(x.link, "a", digest(1), 0, api.ErrSize)
		x.refuse(x.lay, "a", digest(1), greatestSize, api.ErrSize)
		x.lay("a", digest(2), 4000)
		x.mustHave(x.link, "a", digest(2), 4000)
	}
}

// P10.2: the limit holds, and not one byte less, for each repository of its own; what is taken away makes room.
func TestQuota(t *testing.T) {
	for limit := range 12 {
		for first := range limit + 1 {
			x := newBoth(t, limit)
			x.mustAdd(x.link, "a", digest(1), first)
			x.refuse(x.link, "a", digest(2), limit-first+1, api.ErrQuota)
			x.mustAdd(x.link, "a", digest(2), limit-first)
			x.refuse(x.link, "a", digest(3), 1, api.ErrQuota)
			x.refuse(x.link, "a", digest(3), greatestSize, api.ErrQuota)
			x.mustAdd(x.link, "a", digest(3), 0)
			x.mustAdd(x.link, "b", digest(1), limit)
			x.unlink("a", digest(1))
			x.refuse(x.link, "a", digest(1), first+1, api.ErrQuota)
			x.mustAdd(x.link, "a", digest(1), first)
			x.forget(digest(2))
			x.refuse(x.link, "a", digest(4), limit-first+1, api.ErrQuota)
			x.mustAdd(x.link, "a", digest(4), limit-first)
		}
	}
}

// P10.2: Lay does not ask for the limit, and does not change it; above it Link adds nothing, not even what has no bytes.
func TestLay(t *testing.T) {
	x := newBoth(t, 10)
	x.mustAdd(x.lay, "a", digest(1), 10)
	x.mustAdd(x.link, "a", digest(2), 0)
	x.mustAdd(x.lay, "a", digest(3), 1)
	for _, size := range []int{0, 1, 10, greatestSize} {
		x.refuse(x.link, "a", digest(4), size, api.ErrQuota)
	}
	x.mustAdd(x.lay, "a", digest(4), 0)
	for k := range 20 {
		x.mustAdd(x.lay, "a", digest(10+k), greatestSize)
	}
	x.refuse(x.link, "b", digest(1), 11, api.ErrQuota)
	x.mustAdd(x.link, "b", digest(1), 10)
	for k := range 20 {
		x.unlink("a", digest(10+k))
	}
	x.refuse(x.link, "a", digest(5), 0, api.ErrQuota)
	x.unlink("a", digest(3))
	x.mustAdd(x.link, "a", digest(5), 0)
	x.unlink("a", digest(1))
	x.mustAdd(x.link, "a", digest(1), 10)
}

// fill adds as many links as there can be, each of size 1, in so many repositories.
func fill(t *testing.T, l *quota.Links, repos []string) {
	t.Helper()
	for k := range mostLinks {
		add := l.Link
		if k%2 == 1 {
			add = l.Lay
		}
		if is, err := add(repos[k%len(repos)], digest(k/len(repos)), 1); !is || err != api.OK {
			t.Fatalf("%d: %v, %v", k, is, err)
		}
	}
}

// expect compares what a call answered.
func expect(t *testing.T, what string, is bool, err api.Errno, wantIs bool, want api.Errno) {
	t.Helper()
	if is != wantIs || err != want {
		t.Errorf("%s: %v, %v, not %v, %v", what, is, err, wantIs, want)
	}
}

// expectFull tries to add to links that are full, and have a limit of mostLinks.
func expectFull(t *testing.T, l *quota.Links) {
	t.Helper()
	more := digest(mostLinks)
	for _, add := range []adder{l.Link, l.Lay} {
		is, err := add("b", more, 1)
		expect(t, "another repository", is, err, false, api.ErrFull)
		is, err = add("b", more, 0)
		expect(t, "no bytes", is, err, false, api.ErrFull)
		is, err = add("b", more, greatestSize+1)
		expect(t, "too many bytes", is, err, false, api.ErrRange)
		is, err = add("B", more, 1)
		expect(t, "no name", is, err, false, api.ErrName)
		is, err = add("a", digest(0), 1)
		expect(t, "the same", is, err, false, api.OK)
		is, err = add("a", digest(0), 2)
		expect(t, "another size", is, err, false, api.ErrSize)
	}
	is, err := l.Lay("a", more, 1)
	expect(t, "Lay without limit", is, err, false, api.ErrFull)
	is, err = l.Mount("a", "b", digest(1))
	expect(t, "Mount", is, err, false, api.ErrFull)
	is, err = l.Mount("a", "a", digest(1))
	expect(t, "Mount of the same", is, err, false, api.OK)
	is, err = l.Mount("b", "a", digest(1))
	expect(t, "Mount of nothing", is, err, false, api.ErrBlob)
	if l.Has("b", more) || l.Has("a", more) || l.Use("b") != 0 {
		t.Error("added")
	}
}

// P10.2, P10.4: there are 65,536 links at most, of one repository that is at its limit; ErrQuota is ahead of ErrFull.
func TestFull(t *testing.T) {
	l := newLinks(t, mostLinks)
	fill(t, l, []string{"a"})
	expectFull(t, l)
	is, err := l.Link("a", digest(mostLinks), 1)
	expect(t, "above the limit", is, err, false, api.ErrQuota)
	is, err = l.Link("a", digest(mostLinks), 0)
	expect(t, "at the limit", is, err, false, api.ErrFull)
	for round := range 3 {
		if !l.Unlink("a", digest(5+round)) {
			t.Error("not unlinked")
		}
		is, err = l.Link("b", digest(mostLinks+round), 1)
		expect(t, "one more", is, err, true, api.OK)
		is, err = l.Lay("b", digest(mostLinks+round+1), 1)
		expect(t, "two more", is, err, false, api.ErrFull)
	}
	if l.Use("a") != mostLinks-3 || len(l.IDs("a")) != mostLinks-3 || l.Use("b") != 3 || !slices.Equal(l.Repos(), []string{"a", "b"}) {
		t.Error(l.Use("a"), len(l.IDs("a")), l.Use("b"), l.Repos())
	}
	checkRising(t, l.IDs("a"))
}

// P10.2, P10.4: the links of all repositories count together; those that are forgotten make room.
func TestFullOfRepos(t *testing.T) {
	repos := []string{"a"}
	for _, c := range "0123456789abcde" {
		repos = append(repos, "r/"+string(c))
	}
	l := newLinks(t, mostLinks)
	fill(t, l, repos)
	expectFull(t, l)
	if n := l.Forget(digest(7)); n != len(repos) {
		t.Error(n)
	}
	for k := range repos {
		is, err := l.Link("b", digest(k), 0)
		expect(t, "more", is, err, true, api.OK)
	}
	is, err := l.Link("b", digest(99), 0)
	expect(t, "one more", is, err, false, api.ErrFull)
	for _, repo := range repos {
		if n := mostLinks/len(repos) - 1; l.Use(repo) != n || len(l.IDs(repo)) != n {
			t.Errorf("%s: %d, %d", repo, l.Use(repo), len(l.IDs(repo)))
		}
		checkRising(t, l.IDs(repo))
	}
	if got := l.Repos(); !slices.Equal(got, slices.Insert(repos, 1, "b")) {
		t.Error(got)
	}
}

// P10.2: so many links of the greatest size are no more than there can be, too.
func TestGreatestUse(t *testing.T) {
	l := newLinks(t, greatestLimit)
	for k := range mostLinks {
		is, err := l.Link("a", digest(k), greatestSize)
		expect(t, "a link", is, err, true, api.OK)
	}
	if l.Use("a") != mostLinks*greatestSize {
		t.Error(l.Use("a"))
	}
}

// P10.2, P10.4: as many repositories as there can be, each with a link.
func TestManyRepos(t *testing.T) {
	l := newLinks(t, 1)
	var want []string
	const digits = "0123456789abcdef"
	for k := range mostLinks {
		repo := string([]byte{digits[k>>12], digits[k>>8&15], '/', digits[k>>4&15], digits[k&15]})
		want = append(want, repo)
		is, err := l.Link(repo, digest(1), 1)
		expect(t, repo, is, err, true, api.OK)
	}
	is, err := l.Link("a", digest(1), 1)
	expect(t, "one more", is, err, false, api.ErrFull)
	if got := l.Repos(); !slices.Equal(got, want) {
		t.Error("Repos")
	}
	if n := l.Forget(digest(1)); n != mostLinks || len(l.Repos()) != 0 {
		t.Error(n, len(l.Repos()))
	}
	is, err = l.Link("a", digest(1), 1)
	expect(t, "anew", is, err, true, api.OK)
}

func checkRising(t *testing.T, ids []api.ID) {
	t.Helper()
	for i, id := range ids {
		if i > 0 && string(ids[i-1][:]) >= string(id[:]) {
			t.Fatalf("%x is not before %x", ids[i-1], id)
		}
	}
}

// P10.3: ErrName is ahead of ErrBlob, of from and of to alike; ErrBlob is ahead of what Link returns.
func TestMountRefused(t *testing.T) {
	x := newBoth(t, 10)
	x.mustAdd(x.link, "a", digest(1), 6)
	x.mustAdd(x.link, "b", digest(2), 10)
	for _, no := range wrong {
		for _, repo := range []string{"a", "b", "c", no} {
			for _, id := range []api.ID{digest(1), digest(2), digest(3)} {
				x.refuseMount(no, repo, id, api.ErrName)
				x.refuseMount(repo, no, id, api.ErrName)
			}
		}
	}
	for _, to := range []string{"a", "b", "c"} {
		x.refuseMount("c", to, digest(1), api.ErrBlob)
		x.refuseMount("a", to, digest(2), api.ErrBlob)
		x.refuseMount("b", to, digest(1), api.ErrBlob)
		x.refuseMount("a", to, digest(3), api.ErrBlob)
	}
	x.unlink("a", digest(1))
	x.refuseMount("a", "c", digest(1), api.ErrBlob)
}

// P10.3: what is mounted has the size that it has in from, which keeps it; what is there is not added.
func TestMount(t *testing.T) {
	for _, size := range []int{0, 1, 7, greatestSize - 1, greatestSize} {
		x := newBoth(t, greatestSize)
		x.mustAdd(x.link, "a", digest(1), size)
		for _, to := range names[1:] {
			if is, err := x.mount("a", to, digest(1)); !is || err != api.OK {
				t.Error(to, is, err)
			}
			x.check()
			x.mustHave(x.link, to, digest(1), size)
			for _, from := range []string{"a", to} {
				if is, err := x.mount(from, to, digest(1)); is || err != api.OK {
					t.Error(from, to, is, err)
				}
			}
		}
		if is, err := x.mount("a", "a", digest(1)); is || err != api.OK {
			t.Error(is, err)
		}
		x.unlink("a", digest(1))
		x.check()
		if is, err := x.mount(names[3], "a", digest(1)); !is || err != api.OK {
			t.Error(is, err)
		}
		x.check()
	}
}

// P10.3: ErrSize, OK and ErrQuota are those of Link: the limit is that of to, however from came by its link.
func TestMountAsLink(t *testing.T) {
	x := newBoth(t, 10)
	x.mustAdd(x.lay, "a", digest(1), 11)
	x.mustAdd(x.lay, "a", digest(2), 4)
	x.mustAdd(x.lay, "a", digest(3), 10)
	x.mustAdd(x.lay, "a", digest(4), 0)
	x.refuseMount("a", "b", digest(1), api.ErrQuota)
	x.mustAdd(x.link, "b", digest(2), 5)
	x.refuseMount("a", "b", digest(2), api.ErrSize)
	x.refuseMount("b", "a", digest(2), api.ErrSize)
	x.refuseMount("a", "b", digest(3), api.ErrQuota)
	x.mustAdd(x.lay, "b", digest(1), 6)
	x.refuseMount("a", "b", digest(1), api.ErrSize)
	x.refuseMount("a", "b", digest(4), api.ErrQuota)
	if is, err := x.mount("a", "a", digest(1)); is || err != api.OK {
		t.Error(is, err)
	}
	if is, err := x.mount("a", "c", digest(3)); !is || err != api.OK {
		t.Error(is, err)
	}
	if is, err := x.mount("a", "c", digest(4)); !is || err != api.OK {
		t.Error(is, err)
	}
	x.refuseMount("a", "c", digest(2), api.ErrQuota)
	x.check()
}

// P10.4: a link is of its repository and its digest alone, of each bit of it.
func TestHas(t *testing.T) {
	x := newBoth(t, 100)
	id := digest(0x123456)
	x.mustAdd(x.link, "a/b", id, 10)
	for bit := range 256 {
		not := id
		not[bit/8] ^= 1 << (bit % 8)
		if x.l.Has("a/b", not) || x.unlink("a/b", not) || x.forget(not) != 0 {
			t.Fatalf("%x", not)
		}
		x.refuseMount("a/b", "c", not, api.ErrBlob)
	}
	for _, repo := range slices.Concat(names, wrong, []string{"a/b/", "a/bb", "a/", "b", "a"}) {
		if x.l.Has(repo, id) || x.unlink(repo, id) || x.l.Use(repo) != 0 || len(x.l.IDs(repo)) != 0 {
			t.Errorf("%q", repo)
		}
	}
	x.check()
	if !x.l.Has("a/b", id) || !x.unlink("a/b", id) || x.l.Has("a/b", id) || x.unlink("a/b", id) {
		t.Error("not unlinked")
	}
	x.check()
}

// P10.4: any digest can be linked, that of noughts as well.
func TestNoughts(t *testing.T) {
	x := newBoth(t, 100)
	if x.l.Has("a", api.ID{}) || x.unlink("a", api.ID{}) || x.forget(api.ID{}) != 0 {
		t.Error("linked")
	}
	x.mustAdd(x.link, "a", api.ID{}, 3)
	x.mustAdd(x.link, "a", digest(-1), 4)
	if is, err := x.mount("a", "b", api.ID{}); !is || err != api.OK {
		t.Error(is, err)
	}
	if x.forget(api.ID{}) != 2 {
		t.Error("not forgotten")
	}
	x.check()
}

// P10.4: a link without bytes is one: its repository has it, and is listed, until it goes.
func TestNoBytes(t *testing.T) {
	for _, x := range adders(t, 0) {
		x.mustAdd(x.add, "b", digest(1), 0)
		x.mustAdd(x.add, "a", digest(1), 0)
		x.mustAdd(x.add, "a", digest(2), 0)
		if l := x.l.Repos(); !slices.Equal(l, []string{"a", "b"}) || x.l.Use("a") != 0 {
			t.Error(l)
		}
		if !x.unlink("b", digest(1)) || !x.unlink("a", digest(1)) {
			t.Error("not unlinked")
		}
		x.check()
		if x.forget(digest(2)) != 1 || len(x.l.Repos()) != 0 {
			t.Error("not forgotten")
		}
		x.check()
	}
}

// P10.4: a digest is forgotten in all repositories, however many have it, and no other one.
func TestForget(t *testing.T) {
	for n := range len(names) + 1 {
		x := newBoth(t, 100)
		for i, repo := range names {
			x.mustAdd(x.lay, repo, digest(1), 60+i)
			if i < n {
				x.mustAdd(x.lay, repo, digest(2), i)
			}
			if i%2 == 0 {
				x.mustAdd(x.lay, repo, digest(3), 50)
			}
		}
		if got := x.forget(digest(2)); got != n {
			t.Error(n, got)
		}
		x.check()
		if got := x.forget(digest(2)); got != 0 {
			t.Error(got)
		}
		if got := x.forget(digest(1)); got != len(names) {
			t.Error(got)
		}
		x.check()
		if got := len(x.l.Repos()); got != (len(names)+1)/2 {
			t.Error(got)
		}
		x.mustAdd(x.link, "a", digest(2), 50)
		x.refuse(x.link, "a", digest(4), 1, api.ErrQuota)
	}
}

// P10.4: repositories are ascending byte by byte, each once, whatever they link.
func TestRepos(t *testing.T) {
	rising := []string{"0", "0/a", "1", "a", "a-b", "a-b-c", "a--b", "a.b", "a/0", "a/b", "a/b/c", "a0", "a9", "a_b", "a__b", "aa", "aa/b", "ab", "b", "b-a", "b/a", "z", "z9", "zz"}
	slices.SortFunc(rising, strings.Compare)
	for _, step := range []int{1, 5, 7, 11, 13, 17, 19, 23} {
		x := newBoth(t, 1000)
		at := 0
		for range rising {
			at = (at + step) % len(rising)
			for k := range 3 {
				x.lay(rising[at], digest(k*(at+1)), k)
			}
		}
		x.check()
	}
	x := newBoth(t, 1000)
	for i := range rising {
		x.lay(rising[len(rising)-1-i], digest(i), 1)
		x.lay(rising[i], digest(i), 1)
	}
	if got := x.l.Repos(); !slices.Equal(got, rising) {
		t.Error(got)
	}
	x.check()
}

// P10.4: digests are ascending, wherever two of them differ first, bytes above 127 behind the others.
func TestIDs(t *testing.T) {
	x := newBoth(t, 1000)
	for place := range 32 {
		for _, b := range []byte{255, 1, 128, 127, 2} {
			var id api.ID
			id[place] = b
			x.link("a", id, 1)
			id[31-place] ^= 0x80
			x.link("b", id, 1)
			id[0]++
			x.link("a", id, 1)
		}
	}
	x.check()
	checkRising(t, x.l.IDs("a"))
	checkRising(t, x.l.IDs("b"))
	if ids := x.l.IDs("c"); len(ids) != 0 {
		t.Error(ids)
	}
}

// P10.4: what is told is nobody else's memory.
func TestMemory(t *testing.T) {
	x := newBoth(t, 100)
	for i, repo := range names {
		x.mustAdd(x.lay, repo, digest(i), 1)
		x.mustAdd(x.lay, repo, digest(i+1), 1)
	}
	for range 2 {
		repos := x.l.Repos()
		clear(repos[:cap(repos)])
		x.check()
		for _, repo := range names {
			ids := x.l.IDs(repo)
			clear(ids[:cap(ids)])
		}
		x.check()
	}
}

// P10.2: what was passed is not kept: a name does not keep the text of which it is a part.
func TestNamesNotKept(t *testing.T) {
	const n, length = 64, 1 << 20
	l := newLinks(t, 100)
	for k := range n {
		text := strings.Repeat("a", length)
		add := []adder{l.Link, l.Lay}[k%2]
		is, err := add(text[:k+1], digest(k), 1)
		expect(t, "a part of a text", is, err, true, api.OK)
	}
	runtime.GC()
	var now runtime.MemStats
	runtime.ReadMemStats(&now)
	if now.HeapAlloc > n*length/2 {
		t.Error(now.HeapAlloc, "bytes are kept")
	}
	runtime.KeepAlive(l)
}

// P10.4: of repositories that link nothing any more nothing is kept.
func TestNothingKept(t *testing.T) {
	const n = 1 << 18
	l := newLinks(t, 100)
	for k := range n {
		repo := strings.Repeat("a", 100) + strconv.Itoa(k)
		is, err := l.Link(repo, digest(k), 1)
		expect(t, repo, is, err, true, api.OK)
		if k%2 == 0 && l.Forget(digest(k)) != 1 || k%2 == 1 && !l.Unlink(repo, digest(k)) {
			t.Fatal(repo)
		}
	}
	runtime.GC()
	var now runtime.MemStats
	runtime.ReadMemStats(&now)
	if now.HeapAlloc > n*100/2 {
		t.Error(now.HeapAlloc, "bytes are kept")
	}
	runtime.KeepAlive(l)
}

// P10.5: objects do not know of each other.
func TestTwoObjects(t *testing.T) {
	x, y := newBoth(t, 10), newBoth(t, 20)
	x.mustAdd(x.link, "a", digest(1), 10)
	y.mustAdd(y.link, "a", digest(2), 20)
	x.refuseMount("a", "b", digest(2), api.ErrBlob)
	y.mustAdd(y.lay, "a", digest(1), 11)
	x.mustHave(x.link, "a", digest(1), 10)
	if x.forget(digest(1)) != 1 {
		t.Error("not forgotten")
	}
	x.check()
	y.check()
}
