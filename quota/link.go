package quota

import (
	"cmp"
	"slices"
	"strings"

	"entrepot/api"
	"entrepot/sha"
)

// link is by what a link is found.
type link struct {
	repo string
	id   api.ID
}

// blob is what is known of a blob that is linked.
type blob struct{ size int }

// use is what the links of one repository come to. There is none without a link, and one for links without bytes, too.
type use struct{ links, bytes int }

// compare orders links by their repositories, and those of one repository by their digests.
func (k link) compare(other link) int {
	return cmp.Or(strings.Compare(k.repo, other.repo), sha.Compare(k.id, other.id))
}

// inOrder returns those links that are wanted, in their order.
func (l *Links) inOrder(wanted func(link) bool) []link {
	var keys []link
	for k := range l.links {
		if wanted(k) {
			keys = append(keys, k)
		}
	}
	slices.SortFunc(keys, link.compare)
	return keys
}

// put adds a link that is not there.
func (l *Links) put(k link, size int) {
	k.repo = strings.Clone(k.repo)
	l.links[k] = blob{size}
	if l.uses[k.repo] == nil {
		l.uses[k.repo] = &use{}
	}
	l.uses[k.repo].links++
	l.uses[k.repo].bytes += size
}

// remove takes a link away that is there.
func (l *Links) remove(k link) {
	u := l.uses[k.repo]
	u.links--
	u.bytes -= l.links[k].size
	delete(l.links, k)
	if u.links == 0 {
		delete(l.uses, k.repo)
	}
}
