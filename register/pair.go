package register

import (
	"iter"
	"slices"

	"entrepot/api"
)

// pair is both sides of a join: whether something stays that the one holds is up to the other one.
type pair struct{ one, other api.Register }

// exchange makes the one side the other one.
func (p *pair) exchange() {
	p.one, p.other = p.other, p.one
}

// staying yields what the one side holds, but skips what the other one has seen, and holds no more.
func (p *pair) staying() iter.Seq[api.Held] {
	return func(yield func(h api.Held) bool) {
		for _, h := range p.one.Held {
			if has(p.other.Seen, h.Dot) && !holds(p.other.Held, h.Dot) {
				continue
			}
			if !yield(h) {
				return
			}
		}
	}
}

// held returns what stays of both sides, in the order of its dots: a dot is there twice only if each side holds another digest with it.
func (p *pair) held() []api.Held {
	var list []api.Held
	for range 2 {
		for h := range p.staying() {
			list = append(list, h)
		}
		p.exchange()
	}
	slices.SortFunc(list, compareHeld)
	return slices.Compact(list)
}
