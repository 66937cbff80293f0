package quota

import "entrepot/api"

// request asks for a link to a blob of so many bytes. The call that makes it says which use is allowed behind that.
type request struct {
	link   link
	size   int
	allows func(use int) bool
}

// withinLimit allows a use that is not above the limit.
func (l *Links) withinLimit(use int) bool {
	return use <= l.limit
}

// withoutLimit allows every use.
func withoutLimit(int) bool {
	return true
}

// add does what a request asks for, and reports whether the link was not there before.
func (l *Links) add(r request) (bool, api.Errno) {
	if err := l.wrong(r); err != api.OK {
		return false, err
	}
	if b, is := l.links[r.link]; is && b.size != r.size {
		return false, api.ErrSize
	} else if is {
		return false, api.OK
	}
	if !r.allows(l.Use(r.link.repo) + r.size) {
		return false, api.ErrQuota
	}
	if len(l.links) >= api.MaxLinks {
		return false, api.ErrFull
	}
	l.put(r.link, r.size)
	return true, api.OK
}

// wrong returns why a request is one that nobody can do, whatever is linked.
func (l *Links) wrong(r request) api.Errno {
	if !l.valid() {
		return api.ErrNil
	}
	if !isRepo(r.link.repo) {
		return api.ErrName
	}
	if r.size < 0 || r.size > api.MaxBlob {
		return api.ErrRange
	}
	return api.OK
}
