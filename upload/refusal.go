package upload

import "entrepot/api"

// refusal is why a call is refused, if it is. Each call that can be refused defers a func that makes this its error, whatever it returned.
type refusal struct{ err api.Errno }

// unless makes err the refusal if something does not hold, and reports whether it holds.
func (r *refusal) unless(holds bool, err api.Errno) bool {
	if !holds {
		r.err = err
	}
	return holds
}
