package name

import (
	"strings"
	"unicode/utf8"

	"entrepot/api"
)

// state takes the next rune of a string and returns the state behind it: none if no text goes on with that rune.
type state func(c char) state

// examine returns an error at the byte at which s stops being a text that begins in a state.
func examine(s string, next state, err api.Errno) api.Fault {
	for at, r := range s {
		c := char(r)
		// A range gives the same rune for the character U+FFFD and for a byte that is not part of one.
		if r == utf8.RuneError && !strings.HasPrefix(s[at:], string(utf8.RuneError)) {
			c = broken
		}
		if next = next(c); next == nil {
			return api.Fault{Err: err, At: at}
		}
	}
	if next(end) == nil {
		return api.Fault{Err: err, At: len(s)}
	}
	return api.Fault{}
}

// word reads one or more runes, and leaves the one behind them to the state after.
type word struct {
	first, more func(char) bool
	after       state
}

func (m *word) begin(c char) state {
	return c.pass(m.first, m.inside)
}

func (m *word) inside(c char) state {
	if m.more(c) {
		return m.inside
	}
	return m.after(c)
}

// newTag returns the machine of tags.
func newTag() *word {
	return &word{first: char.beginsTag, more: char.inTag, after: char.ends}
}

// platform reads two words with a slash between them.
type platform struct{ word }

// newPlatform returns the machine of platforms.
func newPlatform() *platform {
	m := &platform{}
	m.word = word{first: char.inWord, more: char.inWord, after: m.afterFirst}
	return m
}

func (m *platform) afterFirst(c char) state {
	m.after = char.ends
	return c.pass(char.isSlash, m.begin)
}

// repo reads parts with slashes between them, each of words with joints between them.
type repo struct {
	word
	parts int
}

// newRepo returns the machine of names of repositories.
func newRepo() *repo {
	m := &repo{parts: 1}
	m.word = word{first: char.inWord, more: char.inWord, after: m.afterWord}
	return m
}

func (m *repo) afterWord(c char) state {
	switch c {
	case '.':
		return m.begin
	case '_':
		return m.afterLine
	case '-':
		return m.afterDash
	case '/':
		return m.afterPart()
	}
	return c.ends()
}

func (m *repo) afterLine(c char) state {
	if c == '_' {
		return m.begin
	}
	return m.begin(c)
}

func (m *repo) afterDash(c char) state {
	if c == '-' {
		return m.afterDash
	}
	return m.begin(c)
}

// afterPart returns the beginning of another part, if there may be one.
func (m *repo) afterPart() state {
	if m.parts == api.MaxParts {
		return nil
	}
	m.parts++
	return m.begin
}

// run reads any number of runes up to the most.
type run struct {
	allowed     func(char) bool
	runes, most int
}

func (m *run) next(c char) state {
	if c == end {
		return c.ends()
	}
	if m.full() || !m.allowed(c) {
		return nil
	}
	m.runes++
	return m.next
}

// full reports whether no rune may follow.
func (m *run) full() bool {
	return m.runes == m.most
}
