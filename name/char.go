package name

import (
	"strings"
	"unicode"
)

// char is a rune of a string, or what is there instead of one.
type char rune

const (
	// end is behind the last rune, so that a state need not know where a string ends.
	end char = -1
	// broken is a byte that is not part of a character.
	broken char = -2
)

const digits = "0123456789abcdef"

// pass returns the next state if the rune is allowed.
func (c char) pass(allowed func(char) bool, next state) state {
	if allowed(c) {
		return next
	}
	return nil
}

// ends is the state of a whole text: nothing goes on with it but the end.
func (c char) ends() state {
	return c.pass(char.isEnd, char.ends)
}

func (c char) isEnd() bool {
	return c == end
}

func (c char) isSlash() bool {
	return c == '/'
}

func (c char) inWord() bool {
	return 'a' <= c && c <= 'z' || '0' <= c && c <= '9'
}

func (c char) beginsTag() bool {
	return c.inWord() || 'A' <= c && c <= 'Z' || c == '_'
}

func (c char) inTag() bool {
	return c.beginsTag() || c == '.' || c == '-'
}

func (c char) printed() bool {
	return unicode.IsPrint(rune(c))
}

func (c char) isDigit() bool {
	return c.digit() >= 0
}

// digit returns the value of a digit of base 16, -1 of all others.
func (c char) digit() int {
	return strings.IndexRune(digits, rune(c))
}
