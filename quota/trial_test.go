package quota_test

import (
	"slices"
	"testing"

	"entrepot/api"
)

// P10.2 to P10.5: all sequences of four out of some calls.
func TestSequences(t *testing.T) {
	d, e := digest(1), digest(2)
	calls := []func(x *both){
		func(x *both) { x.link("a", d, 3) },
		func(x *both) { x.link("a", e, 3) },
		func(x *both) { x.link("b", d, 2) },
		func(x *both) { x.lay("a", d, 4) },
		func(x *both) { x.lay("b", e, 3) },
		func(x *both) { x.mount("a", "b", d) },
		func(x *both) { x.mount("b", "a", e) },
		func(x *both) { x.mount("b", "b", e) },
		func(x *both) { x.unlink("a", d) },
		func(x *both) { x.unlink("b", e) },
		func(x *both) { x.forget(d) },
		func(x *both) { x.forget(e) },
	}
	n := len(calls)
	for k := range n * n * n * n {
		x := newBoth(t, 5)
		for range 4 {
			calls[k%n](x)
			x.check()
			k /= n
		}
	}
}

// P10.5: long trials beside a model, each call looked at from outside as well.
func TestTrials(t *testing.T) {
	for seed := range uint32(60) {
		limit := []int{0, 5, 40, 200, 10000}[seed%5]
		x := newBoth(t, limit)
		k := seed * 0x9e3779b9
		for range 400 {
			k = k*1664525 + 1013904223
			before := x.uses()
			touched, grows := x.step(k >> 8)
			x.check()
			x.checkTheorem(before, touched, grows)
		}
	}
}

// uses are the uses of all repositories, by what the object itself tells.
func (x *both) uses() map[string]int {
	uses := map[string]int{}
	for _, repo := range x.l.Repos() {
		uses[repo] = x.l.Use(repo)
	}
	return uses
}

// how a call may make a use greater.
const (
	never = iota
	toLimit
	always
)

// step does something to both that depends on a number, and returns the repository that it may change, and how; without one it may make all of them less.
func (x *both) step(k uint32) (string, int) {
	x.t.Helper()
	repo, from := names[k>>4%4], names[k>>6%4]
	id := digest(int(k>>8) % 12)
	size := int(k>>12) % 30
	if i := x.m.find(repo, id); i >= 0 && k>>17%4 > 0 {
		size = x.m.links[i].size
	}
	switch k % 16 {
	case 0, 1, 2, 3, 4:
		x.link(repo, id, size)
		return repo, toLimit
	case 5, 6:
		x.lay(repo, id, size)
		return repo, always
	case 7, 8, 9:
		x.mount(from, repo, id)
		return repo, toLimit
	case 10:
		x.link(repo, id, []int{-1, 4096, 4097}[k>>12%3])
		return repo, toLimit
	case 11:
		x.mount(wrong[int(k>>12)%len(wrong)], repo, id)
		return "", never
	case 12, 13:
		x.unlink(repo, id)
		return repo, never
	case 14:
		x.lay(wrong[int(k>>12)%len(wrong)], id, size)
		return "", never
	default:
		x.forget(id)
		return "", never
	}
}

// checkTheorem checks what the object tells, behind a call that may have changed one repository in one way.
func (x *both) checkTheorem(before map[string]int, touched string, grows int) {
	x.t.Helper()
	after := x.uses()
	for repo := range after {
		sum := 0
		for _, id := range x.l.IDs(repo) {
			sum += x.sizeOf(repo, id)
		}
		if sum != after[repo] {
			x.t.Fatalf("%q: a use of %d, not %d", repo, after[repo], sum)
		}
		more := after[repo] > before[repo]
		if more && (repo != touched || grows == never || grows == toLimit && after[repo] > x.l.Limit()) {
			x.t.Fatalf("%q: from %d to %d", repo, before[repo], after[repo])
		}
	}
	for repo := range before {
		if touched != "" && repo != touched && before[repo] != after[repo] {
			x.t.Fatalf("%q: from %d to %d", repo, before[repo], after[repo])
		}
	}
}

// sizeOf finds the size of a link: with another one it is refused.
func (x *both) sizeOf(repo string, id api.ID) int {
	x.t.Helper()
	sizes := slices.Concat(x.sizesOf(id), []int{0, 1, 4096})
	for _, size := range sizes {
		if is, err := x.l.Lay(repo, id, size); !is && err == api.OK {
			return size
		}
	}
	x.t.Fatalf("%q, %x: no size of %v", repo, id[:3], sizes)
	return 0
}

// sizesOf are the sizes that a digest has in any repository of the model.
func (x *both) sizesOf(id api.ID) []int {
	var sizes []int
	for _, k := range x.m.links {
		if k.id == id {
			sizes = append(sizes, k.size)
		}
	}
	return sizes
}
